/- There and back: what is told is read as it was; what is read is told as it stood. No Go in sight. -/
import Derived.Test.YthpbadnedhjncaaDoorParseP
import Derived.Test.YthpbadnedhjncaaDoorText
namespace Go.Proofs.YthpbadnedhjncaaDoor

theorem dec_val : ∀ (f : Nat) (n : Int), valM (decD f n) = n := by
  intro f
  induction f with
  | zero => intro n; simp [decD, valM]; omega
  | succ f ih =>
    intro n
    rw [decD]
    split
    · simp [valM]; omega
    · rw [val_snoc, ih]; omega

theorem dec_dig : ∀ (f : Nat) (n : Int), 0 ≤ n → n < 10 ^ (f + 1) → allDig (decD f n) = true := by
  intro f
  induction f with
  | zero =>
    intro n h0 h1
    simp at h1
    unfold allDig
    simp [decD, isDig]
    omega
  | succ f ih =>
    intro n h0 h1
    rw [decD]
    split
    · unfold allDig; simp [isDig]; omega
    · have h2 : n / 10 < 10 ^ (f + 1) := by
        rw [Int.pow_succ] at h1
        exact Int.ediv_lt_of_lt_mul (by decide) h1
      have := ih (n / 10) (by omega) h2
      unfold allDig at this ⊢
      rw [List.all_append, this]
      simp [isDig]; omega

theorem dec_ne : ∀ (f : Nat) (n : Int), decD f n ≠ [] := by
  intro f n
  cases f with
  | zero => simp [decD]
  | succ f => rw [decD]; split <;> simp

theorem dec_head : ∀ (f : Nat) (n : Int), 0 < n → (decD f n).getD 0 0 ≠ 48 := by
  intro f
  induction f with
  | zero => intro n h; simp [decD]; omega
  | succ f ih =>
    intro n h
    rw [decD]
    split
    · simp; omega
    · have := ih (n / 10) (by omega)
      have hne := dec_ne f (n / 10)
      cases hd : decD f (n / 10) with
      | nil => exact absurd hd hne
      | cons a l => rw [hd] at this; simpa using this

theorem good_dec (n : Int) (h0 : 0 ≤ n) (h1 : n ≤ 10000000000000) : GoodDs (decD 20 n) := by
  refine ⟨dec_ne 20 n, dec_dig 20 n h0 (by have : (10 : Int) ^ (20 + 1) = 1000000000000000000000 := by decide
                                           omega), ?_⟩
  rcases (show n = 0 ∨ 0 < n by omega) with h | h
  · left; subst h; rfl
  · right; exact dec_head 20 n h

theorem text_comp (m : Int) (h0 : -1000000000000000 ≤ m) (h1 : m ≤ 1000000000000000) :
    ∃ neg ds cs, Good neg ds cs ∧ textM m = comp neg ds cs ∧ ds.length ≤ 15 ∧ amount ds cs = m.natAbs ∧ (neg = true ↔ m < 0) := by
  have key : ∀ (neg : Bool) (a : Int), 0 ≤ a → a ≤ 1000000000000000 → (neg = true → 0 < a) → ∃ ds cs, Good neg ds cs ∧ (if neg then [45] else []) ++ centsB a = comp neg ds cs ∧ ds.length ≤ 15 ∧ amount ds cs = a := by
    intro neg a a0 a1 hn
    have hg := good_dec (a / 100) (by omega) (by omega)
    have hv := dec_val 20 (a / 100)
    have hl : (decD 20 (a / 100)).length ≤ 15 := by
      rcases (show a / 100 = 0 ∨ 0 < a / 100 by omega) with h | h
      · rw [h]; decide
      · apply Classical.byContradiction
        intro hc
        have := val_lead hg.2.1 (dec_head 20 _ h) (by omega)
        omega
    by_cases hc : a % 100 = 0
    · refine ⟨decD 20 (a / 100), [], ⟨hg, .inl rfl, ?_⟩, ?_, hl, ?_⟩
      · rintro ⟨n1, n2, _⟩
        rw [n2] at hv
        have : valM [48] = 0 := by decide
        have := hn n1
        omega
      · unfold centsB comp; rw [if_pos hc, if_pos rfl]
      · unfold amount; rw [hv]; have : valM [] = 0 := by decide
        omega
    · refine ⟨decD 20 (a / 100), [48 + a % 100 / 10, 48 + a % 10], ⟨hg, .inr ⟨rfl, ?_, ?_⟩, ?_⟩, ?_, hl, ?_⟩
      · unfold allDig; simp [isDig]; omega
      · simp; omega
      · rintro ⟨_, _, n3⟩; cases n3
      · have hne : ¬ ([48 + a % 100 / 10, 48 + a % 10] : List Int) = [] := by simp
        unfold centsB comp; rw [if_neg hc, if_neg hne]
      · unfold amount; rw [hv, val_two]; omega
  rcases (show m < 0 ∨ 0 ≤ m by omega) with h | h
  · obtain ⟨ds, cs, g1, g2, g3, g4⟩ := key true (-m) (by omega) (by omega) (fun _ => by omega)
    refine ⟨true, ds, cs, g1, ?_, g3, by omega, by simp [h]⟩
    unfold textM; rw [if_pos h, ← g2]; rfl
  · obtain ⟨ds, cs, g1, g2, g3, g4⟩ := key false m h h1 (fun hh => by cases hh)
    refine ⟨false, ds, cs, g1, ?_, g3, by omega, by simp; omega⟩
    unfold textM; rw [if_neg (by omega), ← g2]; rfl

/-- What is told is read as it was. -/
theorem parse_text (m : Int) (h : may m = true) : parseM (textM m) = (m, 0) := by
  have hb := may_yes h
  obtain ⟨neg, ds, cs, g1, g2, g3, g4, g5⟩ := text_comp m hb.1 hb.2
  rw [g2, parse_comp g1, if_neg (by omega), if_neg (by omega), g4]
  cases neg with
  | true => have := g5.1 rfl; rw [if_pos rfl]; congr 1; omega
  | false => have : ¬ m < 0 := fun hh => by have := g5.2 hh; cases this
             rw [if_neg (by simp)]; congr 1; omega

theorem val_dec : ∀ (f : Nat) (ds : List Int), ds.length ≤ f + 1 → GoodDs ds → decD f (valM ds) = ds := by
  intro f
  induction f with
  | zero =>
    intro ds hl hg
    match ds, hl, hg.1 with
    | [a], _, _ => simp [decD, valM]; omega
  | succ f ih =>
    intro ds hl hg
    obtain ⟨l, c, rfl⟩ : ∃ l c, ds = l ++ [c] := ⟨ds.dropLast, ds.getLast hg.1, (List.dropLast_concat_getLast hg.1).symm⟩
    have hd := hg.2.1
    unfold allDig at hd
    rw [List.all_append, Bool.and_eq_true] at hd
    have hc : 48 ≤ c ∧ c ≤ 57 := by
      have : isDig c = true := by simpa using hd.2
      exact of_decide_eq_true this
    rw [val_snoc, decD]
    cases hl0 : l with
    | nil => subst hl0; have : valM [] = 0 := by decide
             rw [this, if_pos (by omega)]; simp; omega
    | cons a l' =>
      have hne : l ≠ [] := by rw [hl0]; simp
      have hlg : GoodDs l := by
        refine ⟨hne, hd.1, ?_⟩
        rcases hg.2.2 with h | h
        · rw [List.length_append] at h; simp at h; exact absurd h hne
        · right; rw [hl0] at h ⊢; simpa using h
      have hpos : 1 ≤ valM l := by
        have h48 : l.getD 0 0 ≠ 48 := by
          rcases hg.2.2 with h | h
          · rw [List.length_append] at h; simp at h; exact absurd h hne
          · rw [hl0] at h ⊢; simpa using h
        have hge := val_ge l hd.1
        rcases (show valM l = 0 ∨ 1 ≤ valM l by omega) with h | h
        · exfalso
          rw [hl0] at h h48
          unfold valM at h
          rw [List.foldl_cons] at h
          have hda : isDig a = true := by
            have := hd.1; rw [hl0, List.all_cons, Bool.and_eq_true] at this; exact this.1
          have hdl : allDig l' = true := by
            have := hd.1; rw [hl0, List.all_cons, Bool.and_eq_true] at this; exact this.2
          have hab := of_decide_eq_true hda
          simp at h48
          have fb := (fold_bounds l' (0 * 10 + (a - 48)) (by omega) hdl).1
          have hp : (0 : Int) < 10 ^ l'.length := Int.pow_pos (by decide)
          have : 1 * (10 : Int) ^ l'.length ≤ (0 * 10 + (a - 48)) * 10 ^ l'.length := Int.mul_le_mul_of_nonneg_right (by omega) (by omega)
          omega
        · exact h
      rw [← hl0, if_neg (by omega), show (valM l * 10 + (c - 48)) / 10 = valM l by omega, ih l (by rw [List.length_append] at hl; simp at hl; omega) hlg]
      congr 2
      omega

/-- What is read is told as it stood. -/
theorem text_parse (l : List Int) (n : Int) (h : parseM l = (n, 0)) : may n = true ∧ textM n = l := by
  obtain ⟨neg, ds, cs, hg, hl⟩ := parse_good (l := l) (by rw [h]; simp)
  rw [hl, parse_comp hg] at h
  split at h
  · cases h
  · rename_i h15
    split at h
    · cases h
    · rename_i hm
      have hvd := val_ge ds hg.d.2.1
      have hvc : 0 ≤ valM cs ∧ valM cs < 100 := by
        rcases hg.c with hc | ⟨hc1, hc2, _⟩
        · rw [hc]; decide
        · have h1 := val_ge cs hc2
          have h2 := val_lt cs hc2
          rw [hc1] at h2
          exact ⟨h1, by simpa using h2⟩
      have hdd := val_dec 20 ds (by omega) hg.d
      have hct : centsB (amount ds cs) = ds ++ (if cs = [] then [] else 46 :: cs) := by
        unfold centsB amount
        rw [show (valM ds * 100 + valM cs) / 100 = valM ds by omega, hdd]
        congr 1
        rcases hg.c with hc | ⟨hc1, hc2, hc3⟩
        · rw [if_pos hc, if_pos (by rw [hc]; have : valM [] = 0 := by decide
                                    omega)]
        · have hne : cs ≠ [] := by intro h; rw [h] at hc1; cases hc1
          have h2 := two_of hc1
          have d0 := of_decide_eq_true (of_all hc2 0 (by omega))
          have d1 := of_decide_eq_true (of_all hc2 1 (by omega))
          rw [if_neg hne]
          generalize cs.getD 0 0 = a at *
          generalize cs.getD 1 0 = b at *
          rw [h2, val_two, if_neg (by omega)]
          congr 2
          · omega
          · congr 1; omega
      have hamt : 0 ≤ amount ds cs := by unfold amount; omega
      cases neg with
      | false =>
        rw [if_neg (by simp)] at h
        simp only [Prod.mk.injEq, and_true] at h
        subst h
        refine ⟨may_mk ⟨by omega, by omega⟩, ?_⟩
        unfold textM
        rw [if_neg (by omega), hct, hl]
        rfl
      | true =>
        rw [if_pos rfl] at h
        simp only [Prod.mk.injEq, and_true] at h
        subst h
        have hpos : 0 < amount ds cs := by
          apply Classical.byContradiction
          intro hz
          have hz0 : amount ds cs = 0 := by omega
          unfold amount at hz0
          have hv0 : valM ds = 0 := by omega
          have hc0 : valM cs = 0 := by omega
          apply hg.n
          refine ⟨rfl, ?_, ?_⟩
          · have := val_dec 20 ds (by omega) hg.d
            rw [hv0] at this
            exact this.symm
          · rcases hg.c with hc | ⟨hc1, hc2, hc3⟩
            · exact hc
            · exfalso
              have h2 := two_of hc1
              have d0 := of_decide_eq_true (of_all hc2 0 (by omega))
              have d1 := of_decide_eq_true (of_all hc2 1 (by omega))
              rw [h2, val_two] at hc0
              exact hc3 ⟨by omega, by omega⟩
        refine ⟨may_mk ⟨by omega, by omega⟩, ?_⟩
        unfold textM
        rw [if_pos (by omega), Int.neg_neg, hct, hl]
        rfl

#print axioms text_parse
end Go.Proofs.YthpbadnedhjncaaDoor
