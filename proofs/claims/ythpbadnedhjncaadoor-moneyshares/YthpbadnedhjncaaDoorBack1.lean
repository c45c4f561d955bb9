/- The one form of an amount: its parts, what reads it, there and back. No Go in sight. -/
import Derived.Test.YthpbadnedhjncaaDoorChars
namespace Go.Proofs.YthpbadnedhjncaaDoor

/-- A sign, digits, perhaps a point and two digits. -/
def comp (neg : Bool) (ds cs : List Int) : List Int := (if neg then [45] else []) ++ (ds ++ (if cs = [] then [] else 46 :: cs))

/-- Digits of a number's one form. -/
def GoodDs (ds : List Int) : Prop := ds ≠ [] ∧ allDig ds = true ∧ (ds.length = 1 ∨ ds.getD 0 0 ≠ 48)
def GoodCs (cs : List Int) : Prop := cs = [] ∨ (cs.length = 2 ∧ allDig cs = true ∧ ¬ (cs.getD 0 0 = 48 ∧ cs.getD 1 0 = 48))

structure Good (neg : Bool) (ds cs : List Int) : Prop where
  d : GoodDs ds
  c : GoodCs cs
  n : ¬ (neg = true ∧ ds = [48] ∧ cs = [])

theorem comp_len (neg : Bool) (ds cs : List Int) : (comp neg ds cs).length = (if neg then 1 else 0) + ds.length + (if cs = [] then 0 else cs.length + 1) := by
  unfold comp; cases neg <;> by_cases h : cs = [] <;> simp [h] <;> omega

theorem getD_drop (l : List Int) (a i : Nat) : (l.drop a).getD i 0 = l.getD (a + i) 0 := by simp [List.getD]

theorem getD_app (a b : List Int) (i : Nat) : (a ++ b).getD (a.length + i) 0 = b.getD i 0 := by
  simp only [List.getD, List.getElem?_append_right (Nat.le_add_right _ _), Nat.add_sub_cancel_left]

theorem dig_ne {c : Int} (h : isDig c = true) : c ≠ 45 ∧ c ≠ 46 := by have := of_decide_eq_true h; omega

theorem comp_at {neg : Bool} {ds cs : List Int} (h : GoodDs ds) : atM (comp neg ds cs) = if neg then 1 else 0 := by
  unfold atM negB comp
  cases neg
  · obtain ⟨h1, h2, _⟩ := h
    cases ds with
    | nil => exact absurd rfl h1
    | cons a l =>
      have := of_all h2 0 (by simp)
      simp at this
      have := (dig_ne this).1
      simp [this]
  · simp

theorem comp_drop {neg : Bool} {ds cs : List Int} (h : GoodDs ds) : (comp neg ds cs).drop (atM (comp neg ds cs)) = ds ++ (if cs = [] then [] else 46 :: cs) := by
  rw [comp_at h]
  unfold comp
  cases neg <;> simp

theorem takeWhile_dig (ds rest : List Int) (h : allDig ds = true) (hr : rest = [] ∨ isDig (rest.getD 0 0) = false) : (ds ++ rest).takeWhile isDig = ds := by
  induction ds with
  | nil =>
    rcases hr with rfl | hr
    · rfl
    · cases rest with
      | nil => rfl
      | cons a l => simp at hr; simp [hr]
  | cons a l ih =>
    unfold allDig at h
    simp at h
    simp [h.1]
    exact ih (by unfold allDig; simpa using h.2)

theorem comp_end {neg : Bool} {ds cs : List Int} (h : GoodDs ds) : endM (comp neg ds cs) = (if neg then 1 else 0) + ds.length := by
  unfold endM
  rw [comp_drop h, comp_at h, takeWhile_dig ds _ h.2.1]
  by_cases hc : cs = []
  · left; simp [hc]
  · right; simp [hc]; decide

def amount (ds cs : List Int) : Int := valM ds * 100 + valM cs

theorem parse_21 {l : List Int} (h : (parseM l).2 = 21) : parseM l = (0, 21) := by
  unfold parseM at *
  split at h
  · rw [if_pos (by assumption)]
  · rw [if_neg (by assumption)]
    split at h
    · rw [if_pos (by assumption)]
    · rw [if_neg (by assumption)]
      split at h
      · rw [if_pos (by assumption)]
      · split at h
        · cases h
        · split at h <;> cases h

theorem comp_neg {neg : Bool} {ds cs : List Int} (h : GoodDs ds) : negB (comp neg ds cs) = neg := by
  have h1 := comp_at (neg := neg) (cs := cs) h
  unfold atM at h1
  cases h2 : negB (comp neg ds cs) <;> cases neg <;> simp [h2] at h1 <;> rfl

theorem comp_get {neg : Bool} {ds cs : List Int} (h : GoodDs ds) (i : Nat) : (comp neg ds cs).getD ((if neg = true then 1 else 0) + i) 0 = (ds ++ (if cs = [] then [] else 46 :: cs)).getD i 0 := by
  rw [← comp_drop (neg := neg) (cs := cs) h, getD_drop, comp_at h]

theorem val_two (a b : Int) : valM [a, b] = (a - 48) * 10 + (b - 48) := by unfold valM; simp

theorem two_of {cs : List Int} (h : cs.length = 2) : cs = [cs.getD 0 0, cs.getD 1 0] := by
  match cs, h with
  | [a, b], _ => rfl

/-- What a text of that form is read as. -/
theorem parse_comp {neg : Bool} {ds cs : List Int} (h : Good neg ds cs) :
    parseM (comp neg ds cs) = if 15 < ds.length then (0, 22) else if 1000000000000000 < amount ds cs then (0, 22) else (if neg = true then -amount ds cs else amount ds cs, 0) := by
  obtain ⟨hd, hc, hn⟩ := h
  obtain ⟨N, hN⟩ : ∃ N, N = (if neg = true then 1 else 0 : Nat) := ⟨_, rfl⟩
  have eA := comp_at (neg := neg) (cs := cs) hd
  have eE := comp_end (neg := neg) (cs := cs) hd
  have eL := comp_len neg ds cs
  have eG := comp_get (neg := neg) (cs := cs) hd
  have eD := comp_drop (neg := neg) (cs := cs) hd
  have hN1 : N ≤ 1 := by rw [hN]; split <;> omega
  have hlen : 0 < ds.length := List.length_pos_iff.2 hd.1
  rw [← hN] at eA eE eL
  rw [← hN] at eG
  have e1 : headBad (comp neg ds cs) = false := by
    unfold headBad
    rw [eE, eA]
    refine decide_eq_false (fun hh => ?_)
    rcases hh with hh | ⟨h1, h2⟩
    · omega
    · have h3 := eG 0
      rw [Nat.add_zero, h1] at h3
      have h4 : (ds ++ (if cs = [] then [] else 46 :: cs)).getD 0 0 = ds.getD 0 0 := by
        cases ds with
        | nil => exact absurd rfl hd.1
        | cons a l => rfl
      rw [h4] at h3
      rcases hd.2.2 with h5 | h5
      · omega
      · exact h5 h3.symm
  have e2 : restBad (comp neg ds cs) (N + ds.length) = false := by
    unfold restBad
    refine decide_eq_false (fun hh => ?_)
    obtain ⟨h1, h2⟩ := hh
    rcases hc with hc | ⟨hc1, hc2, hc3⟩
    · rw [eL, if_pos hc] at h1; omega
    · have hne : cs ≠ [] := by intro h; rw [h] at hc1; cases hc1
      apply h2
      have g : ∀ i, (comp neg ds cs).getD (N + ds.length + i) 0 = (46 :: cs).getD i 0 := by
        intro i
        rw [Nat.add_assoc, eG, if_neg hne, getD_app]
      refine ⟨by rw [eL, if_neg hne]; omega, by have := g 0; rwa [Nat.add_zero] at this, ?_, ?_, ?_⟩
      · rw [g 1]; exact of_all hc2 0 (by omega)
      · rw [g 2]; exact of_all hc2 1 (by omega)
      · rw [g 1, g 2]; exact hc3
  have e3 : minusBad (comp neg ds cs) = false := by
    unfold minusBad
    refine decide_eq_false (fun hh => ?_)
    obtain ⟨h1, h2, h3⟩ := hh
    rw [eA] at h1
    have hneg : neg = true := by cases neg with
      | true => rfl
      | false => simp at hN; omega
    rw [eL] at h2
    rcases hc with hc | ⟨hc1, _, _⟩
    · rw [if_pos hc] at h2
      apply hn
      refine ⟨hneg, ?_, hc⟩
      have hl1 : ds.length = 1 := by omega
      have h4 := eG 0
      rw [h1, Nat.add_zero, h3] at h4
      match ds, hl1 with
      | [a], _ =>
        simp at h4
        rw [← h4]
    · have hne : cs ≠ [] := by intro h; rw [h] at hc1; cases hc1
      rw [if_neg hne] at h2; omega
  have e4 : centM (comp neg ds cs) = amount ds cs := by
    unfold centM amount
    rw [eD, eE, eA, show N + ds.length - N = ds.length by omega, List.take_left' rfl]
    congr 1
    rcases hc with hc | ⟨hc1, hc2, hc3⟩
    · rw [if_pos (by rw [eL, if_pos hc]; omega), hc]; rfl
    · have hne : cs ≠ [] := by intro h; rw [h] at hc1; cases hc1
      rw [if_neg (by rw [eL, if_neg hne]; omega)]
      have g : ∀ i, (comp neg ds cs).getD (N + ds.length + i) 0 = (46 :: cs).getD i 0 := by
        intro i
        rw [Nat.add_assoc, eG, if_neg hne, getD_app]
      rw [g 1, g 2]
      conv => rhs; rw [two_of hc1, val_two]
      rfl
  unfold parseM
  rw [e1, eE, e2, e3, eA, e4, comp_neg hd, show N + ds.length - N = ds.length by omega]
  simp

/-- What is read as an amount (or as one too great) is of that form. -/
theorem parse_good {l : List Int} (h : (parseM l).2 ≠ 21) : ∃ neg ds cs, Good neg ds cs ∧ l = comp neg ds cs := by
  have h1 : headBad l = false := by
    cases hh : headBad l with
    | false => rfl
    | true => exfalso; apply h; unfold parseM; rw [if_pos hh]
  have h2 : restBad l (endM l) = false := by
    cases hh : restBad l (endM l) with
    | false => rfl
    | true => exfalso; apply h; unfold parseM; rw [if_neg (by rw [h1]; simp), if_pos hh]
  have h3 : minusBad l = false := by
    cases hh : minusBad l with
    | false => rfl
    | true => exfalso; apply h; unfold parseM; rw [if_neg (by rw [h1]; simp), if_neg (by rw [h2]; simp), if_pos hh]
  clear h
  have h1 := of_decide_eq_false h1
  have h2 := of_decide_eq_false h2
  have h3 := of_decide_eq_false h3
  obtain ⟨D, hD⟩ : ∃ D, D = l.drop (atM l) := ⟨_, rfl⟩
  obtain ⟨ds, hds⟩ : ∃ ds, ds = D.takeWhile isDig := ⟨_, rfl⟩
  obtain ⟨R, hR⟩ : ∃ R, R = D.dropWhile isDig := ⟨_, rfl⟩
  have hDR : D = ds ++ R := by rw [hds, hR]; exact (List.takeWhile_append_dropWhile).symm
  have hE : endM l = atM l + ds.length := by unfold endM; rw [← hD, ← hds]
  have hat := at_le l
  have hlD : D.length = l.length - atM l := by rw [hD, List.length_drop]
  have hlen : l.length = atM l + ds.length + R.length := by
    have := congrArg List.length hDR
    rw [List.length_append] at this
    omega
  have gD : ∀ i, l.getD (atM l + i) 0 = D.getD i 0 := fun i => by rw [hD, getD_drop]
  have gR : ∀ i, l.getD (atM l + ds.length + i) 0 = R.getD i 0 := fun i => by
    rw [Nat.add_assoc, gD, hDR, getD_app]
  have hne : ds ≠ [] := by intro hh; apply h1; left; rw [hE, hh]; rfl
  have hdl : 0 < ds.length := List.length_pos_iff.2 hne
  have hdig : allDig ds = true := by
    unfold allDig; rw [hds]; exact List.all_takeWhile
  have hg0 : D.getD 0 0 = ds.getD 0 0 := by
    rw [hDR]
    cases ds with
    | nil => exact absurd rfl hne
    | cons a l => rfl
  have hGD : GoodDs ds := by
    refine ⟨hne, hdig, ?_⟩
    by_cases h48 : ds.getD 0 0 = 48
    · left
      have : ¬ (atM l + 1 < endM l) := fun hh => h1 (.inr ⟨by have := gD 0; rw [Nat.add_zero] at this; rw [this, hg0]; exact h48, hh⟩)
      omega
    · right; exact h48
  have hsg : l = (if negB l = true then [45] else []) ++ D := by
    rw [hD]
    unfold atM
    cases hn : negB l with
    | false => simp
    | true =>
      have := of_decide_eq_true hn
      cases l with
      | nil => simp at this
      | cons a l => simp at this; simp [this]
  rw [hE] at h2
  by_cases hR0 : R = []
  · refine ⟨negB l, ds, [], ⟨hGD, .inl rfl, ?_⟩, ?_⟩
    · rintro ⟨n1, n2, _⟩
      apply h3
      have ha1 : atM l = 1 := by unfold atM; rw [if_pos n1]
      refine ⟨ha1, by rw [hlen, hR0, n2, ha1]; rfl, ?_⟩
      have := gD 0
      rw [ha1] at this
      rw [this, hg0, n2]; rfl
    · unfold comp
      rw [if_pos rfl, List.append_nil]
      conv => lhs; rw [hsg, hDR, hR0, List.append_nil]
  · have hRl : 0 < R.length := List.length_pos_iff.2 hR0
    have h4 : (l.length = atM l + ds.length + 3 ∧ l.getD (atM l + ds.length) 0 = 46 ∧ isDig (l.getD (atM l + ds.length + 1) 0) = true ∧ isDig (l.getD (atM l + ds.length + 2) 0) = true ∧ ¬ (l.getD (atM l + ds.length + 1) 0 = 48 ∧ l.getD (atM l + ds.length + 2) 0 = 48)) := by
      apply Classical.byContradiction
      intro hh
      exact h2 ⟨by omega, hh⟩
    obtain ⟨k1, k2, k3, k4, k5⟩ := h4
    have kR : R.length = 3 := by omega
    rw [gR 1] at k3 k5
    rw [gR 2] at k4 k5
    have k2' : R.getD 0 0 = 46 := by have := gR 0; rw [Nat.add_zero] at this; rw [← this]; exact k2
    obtain ⟨c, a, b, rfl⟩ : ∃ c a b, R = [c, a, b] := by
      match R, kR with
      | [c, a, b], _ => exact ⟨c, a, b, rfl⟩
    simp at k2' k3 k4 k5
    refine ⟨negB l, ds, [a, b], ⟨hGD, .inr ⟨rfl, by unfold allDig; simp [k3, k4], by simpa using k5⟩, ?_⟩, ?_⟩
    · rintro ⟨_, _, n3⟩; cases n3
    · have hc : comp (negB l) ds [a, b] = (if negB l = true then [45] else []) ++ (ds ++ [46, a, b]) := by unfold comp; simp
      rw [hc]
      conv => lhs; rw [hsg, hDR, k2']

end Go.Proofs.YthpbadnedhjncaaDoor
