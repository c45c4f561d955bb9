/- Nothing is lost: what Share's parts keep. Plain mathematics. -/
import Derived.Test.YthpbadnedhjncabDoorGivePlain
namespace Go.Proofs.YthpbadnedhjncabDoor

theorem sum_set (l : List Int) : ∀ (b : Nat) (v : Int), b < l.length → (l.set b v).sum = l.sum + v - l.getD b 0 := by
  induction l with
  | nil => intro b v h; simp at h
  | cons a l ih =>
    intro b v h
    cases b with
    | zero => simp [List.set]; omega
    | succ b =>
      have := ih b v (by simpa using h)
      simp only [List.set, List.sum_cons, this]
      simp [List.getD]; omega

/-- How many are above 0. -/
def npos (l : List Int) : Nat := l.countP (fun z => decide (0 < z))

theorem npos_set (l : List Int) (b : Nat) (hb : b < l.length) (h : 0 < l.getD b 0) : npos (l.set b (-1)) + 1 = npos l := by
  unfold npos
  have e : l.getD b 0 = l[b] := by simp [List.getD, hb]
  rw [e] at h
  have hp : 0 < l.countP (fun z => decide (0 < z)) := List.countP_pos_iff.2 ⟨l[b], List.getElem_mem hb, by simpa using h⟩
  rw [List.countP_set hb]
  simp [h]
  omega

theorem npos_best (l : List Int) (h : 1 ≤ npos l) : bestAt l l.length < l.length ∧ 0 < l.getD (bestAt l l.length) 0 := by
  unfold npos at h
  obtain ⟨z, hz, hp⟩ := List.countP_pos_iff.1 h
  have hl : 0 < l.length := List.length_pos_of_mem hz
  refine ⟨bestAt_lt l _ hl, ?_⟩
  obtain ⟨i, hi, rfl⟩ := List.mem_iff_getElem.1 hz
  have := (bestAt_spec l l.length hl).1 i hi
  simp only [List.getD, List.getElem?_eq_getElem hi, Option.getD_some] at this
  have hp' : 0 < l[i] := by simpa using hp
  simp only [List.getD]
  omega

theorem give_sum : ∀ (L : Nat) (os rs : List Int), os.length = rs.length → L ≤ npos rs → (give L os rs).sum = os.sum + L := by
  intro L
  induction L with
  | zero => intro os rs _ _; simp [give]
  | succ L ih =>
    intro os rs hl hn
    obtain ⟨h1, h2⟩ := npos_best rs (by omega)
    rw [give, ih _ _ (by simpa using hl) (by have := npos_set rs _ h1 h2; omega), sum_set _ _ _ (by omega)]
    omega

/-- Who is given one more: those with the greatest rests, of the same ones the first; each has a rest. -/
theorem give_who : ∀ (L : Nat) (os rs : List Int), os.length = rs.length → L ≤ npos rs →
    ∃ C : Nat → Bool, (∀ i, i < rs.length → (give L os rs).getD i 0 = os.getD i 0 + (if C i then 1 else 0)) ∧ (∀ i, C i = true → i < rs.length ∧ 0 < rs.getD i 0) ∧
      (∀ i k, C i = true → C k = false → k < rs.length → rs.getD k 0 < rs.getD i 0 ∨ (rs.getD k 0 = rs.getD i 0 ∧ i < k)) := by
  intro L
  induction L with
  | zero => intro os rs _ _; exact ⟨fun _ => false, fun i _ => by simp [give], fun i h => by simp at h, fun i k h => by simp at h⟩
  | succ L ih =>
    intro os rs hl hn
    obtain ⟨h1, h2⟩ := npos_best rs (by omega)
    obtain ⟨C, c1, c2, c3⟩ := ih (os.set (bestAt rs rs.length) (os.getD (bestAt rs rs.length) 0 + 1)) (rs.set (bestAt rs rs.length) (-1)) (by simpa using hl) (by have := npos_set rs _ h1 h2; omega)
    obtain ⟨s1, s2⟩ := bestAt_spec rs rs.length (by omega)
    generalize hb : bestAt rs rs.length = b at *
    have hCb : C b = false := by
      cases h : C b with
      | false => rfl
      | true =>
        have := (c2 b h).2
        rw [getD_set _ _ _ _ h1, if_pos rfl] at this
        omega
    refine ⟨fun i => decide (i = b) || C i, fun i hi => ?_, fun i h => ?_, fun i k h hk hkl => ?_⟩
    · rw [give, hb, c1 i (by simpa using hi), getD_set _ _ _ _ (by omega)]
      by_cases e : i = b
      · subst e; simp [hCb]
      · simp [e]
    · simp only [Bool.or_eq_true, decide_eq_true_eq] at h
      rcases h with rfl | h
      · exact ⟨h1, h2⟩
      · have := c2 i h
        rw [getD_set _ _ _ _ h1] at this
        by_cases e : i = b
        · subst e; exact ⟨h1, h2⟩
        · rw [if_neg e] at this; exact ⟨by simpa using this.1, this.2⟩
    · simp only [Bool.or_eq_true, decide_eq_true_eq] at h
      simp only [Bool.or_eq_false_iff, decide_eq_false_iff_not] at hk
      obtain ⟨hkb, hkC⟩ := hk
      by_cases e : i = b
      · subst e
        have := s1 k hkl
        rcases Nat.lt_trichotomy k i with hlt | he | hgt
        · left; exact s2 k hlt
        · exact absurd he hkb
        · omega
      · have hi : C i = true := by rcases h with h | h; exact absurd h e; exact h
        have := c3 i k hi hkC (by simpa using hkl)
        rw [getD_set _ _ _ _ h1, getD_set _ _ _ _ h1, if_neg hkb, if_neg e] at this
        exact this

theorem sums_split (t s : Int) (zs : List Int) : t * zs.sum = s * (quots t s zs).sum + (rests t s zs).sum := by
  induction zs with
  | nil => simp [quots, rests]
  | cons a l ih =>
    unfold quots rests at ih ⊢
    simp only [List.map_cons, List.sum_cons, Int.mul_add, ih]
    have := Int.mul_ediv_add_emod (t * a) s
    omega

theorem rests_le (t s : Int) (hs : 1 ≤ s) (zs : List Int) : (rests t s zs).sum ≤ (s - 1) * (npos (rests t s zs) : Int) := by
  induction zs with
  | nil => simp [rests, npos]
  | cons a l ih =>
    have h1 := Int.emod_lt_of_pos (t * a) (show 0 < s by omega)
    have h0 := Int.emod_nonneg (t * a) (show s ≠ 0 by omega)
    have e : rests t s (a :: l) = (t * a % s) :: rests t s l := rfl
    rw [e, List.sum_cons]
    by_cases hp : 0 < t * a % s
    · have e2 : npos ((t * a % s) :: rests t s l) = npos (rests t s l) + 1 := by simp [npos, hp]
      rw [e2, Int.natCast_add, Int.mul_add]
      simp only [Int.natCast_one, Int.mul_one]
      omega
    · have e2 : npos ((t * a % s) :: rests t s l) = npos (rests t s l) := by simp [npos, hp]
      rw [e2]; omega

theorem left_npos (t : Int) (zs : List Int) (hs : 1 ≤ zs.sum) : (t - (quots t zs.sum zs).sum).toNat ≤ npos (rests t zs.sum zs) := by
  have h1 := sums_split t zs.sum zs
  have h2 := rests_le t zs.sum hs zs
  generalize (quots t zs.sum zs).sum = Q at *
  generalize hN : npos (rests t zs.sum zs) = N at *
  generalize (rests t zs.sum zs).sum = R at *
  generalize zs.sum = s at *
  rcases Nat.lt_or_ge N (t - Q).toNat with h | h
  · exfalso
    have h3 : (N : Int) + 1 ≤ t - Q := by omega
    have h4 : s * (N + 1) ≤ s * (t - Q) := Int.mul_le_mul_of_nonneg_left h3 (by omega)
    rw [Int.mul_sub] at h4
    rw [Int.sub_mul] at h2
    rw [Int.mul_add] at h4
    rw [Int.mul_comm t s] at h1
    omega
  · exact h

theorem left_nonneg (t : Int) (zs : List Int) (hs : 1 ≤ zs.sum) : 0 ≤ t - (quots t zs.sum zs).sum := by
  have h1 := sums_split t zs.sum zs
  have h0 : 0 ≤ (rests t zs.sum zs).sum := by
    have : ∀ l : List Int, 0 ≤ (rests t zs.sum l).sum := by
      intro l
      induction l with
      | nil => simp [rests]
      | cons a l ih =>
        have h0 := Int.emod_nonneg (t * a) (show zs.sum ≠ 0 by omega)
        have e : rests t zs.sum (a :: l) = (t * a % zs.sum) :: rests t zs.sum l := rfl
        rw [e, List.sum_cons]; omega
    exact this zs
  generalize (quots t zs.sum zs).sum = Q at *
  generalize (rests t zs.sum zs).sum = R at *
  generalize zs.sum = s at *
  rcases Int.lt_or_le t Q with h | h
  · exfalso
    have h4 : s * (t + 1) ≤ s * Q := Int.mul_le_mul_of_nonneg_left (by omega) (by omega)
    rw [Int.mul_add, Int.mul_comm s t] at h4
    omega
  · omega

/-- What Share's parts are. -/
structure Whole (t : Int) (ws ps : List Int) : Prop where
  len : ps.length = ws.length
  sum : ps.sum = t
  low : ∀ i, i < ws.length → 0 ≤ ps.getD i 0
  zero : ∀ i, i < ws.length → ws.getD i 0 = 0 → ps.getD i 0 = 0
  more : ∀ i k, i < ws.length → k < ws.length → ws.getD k 0 < ws.getD i 0 → ps.getD k 0 ≤ ps.getD i 0
  same : ∀ i k, i < ws.length → k < i → ws.getD i 0 = ws.getD k 0 → ps.getD i 0 ≤ ps.getD k 0 ∧ ps.getD k 0 ≤ ps.getD i 0 + 1

theorem getD_map (f : Int → Int) (l : List Int) (i : Nat) (h : i < l.length) : (l.map f).getD i 0 = f (l.getD i 0) := by
  simp [List.getD, h]

theorem whole_of {t : Int} {ws : List Int} (ht : 0 ≤ t) (hs : 1 ≤ ws.sum) (hw : ∀ z ∈ ws, fitW z) : Whole t ws (shareOut t ws) := by
  have hql : (quots t ws.sum ws).length = ws.length := by simp [quots]
  have hrl : (rests t ws.sum ws).length = ws.length := by simp [rests]
  have hnp := left_npos t ws hs
  have hnn := left_nonneg t ws hs
  obtain ⟨C, c1, c2, c3⟩ := give_who (t - (quots t ws.sum ws).sum).toNat (quots t ws.sum ws) (rests t ws.sum ws) (by rw [hql, hrl]) hnp
  have hg := give_sum (t - (quots t ws.sum ws).sum).toNat (quots t ws.sum ws) (rests t ws.sum ws) (by rw [hql, hrl]) hnp
  have hq : ∀ i, i < ws.length → (quots t ws.sum ws).getD i 0 = t * ws.getD i 0 / ws.sum := fun i hi => by unfold quots; rw [getD_map _ _ _ hi]
  have hr : ∀ i, i < ws.length → (rests t ws.sum ws).getD i 0 = t * ws.getD i 0 % ws.sum := fun i hi => by unfold rests; rw [getD_map _ _ _ hi]
  have hp : ∀ i, i < ws.length → (shareOut t ws).getD i 0 = t * ws.getD i 0 / ws.sum + (if C i then 1 else 0) := fun i hi => by
    unfold shareOut; rw [c1 i (by omega), hq i hi]
  have hw0 : ∀ i, i < ws.length → 0 ≤ ws.getD i 0 := fun i hi => by
    have : ws.getD i 0 ∈ ws := by simp [List.getD, hi]
    exact (hw _ this).1
  have hq0 : ∀ i, i < ws.length → 0 ≤ t * ws.getD i 0 / ws.sum := fun i hi => Int.ediv_nonneg (Int.mul_nonneg ht (hw0 i hi)) (by omega)
  refine ⟨shareOut_len t ws, by unfold shareOut; rw [hg]; omega, fun i hi => ?_, fun i hi hz => ?_, fun i k hi hk hlt => ?_, fun i k hi hk he => ?_⟩
  · rw [hp i hi]; have := hq0 i hi; split <;> omega
  · rw [hp i hi, hz]
    have : C i = false := by
      cases h : C i with
      | false => rfl
      | true =>
        have := (c2 i h).2
        rw [hr i hi, hz] at this
        simp at this
    rw [this]; simp
  · rw [hp i hi, hp k hk]
    have hm : t * ws.getD k 0 ≤ t * ws.getD i 0 := Int.mul_le_mul_of_nonneg_left (by omega) ht
    have hqq : t * ws.getD k 0 / ws.sum ≤ t * ws.getD i 0 / ws.sum := Int.ediv_le_ediv (by omega) hm
    cases hCk : C k with
    | false => simp only [Bool.false_eq_true, if_false]; split <;> omega
    | true =>
      cases hCi : C i with
      | true => simp only [if_true]; omega
      | false =>
        have h3 := c3 k i hCk hCi (by omega)
        rw [hr i hi, hr k hk] at h3
        have h4 := (c2 k hCk).2
        rw [hr k hk] at h4
        simp only [Bool.false_eq_true, if_false, if_true]
        rcases Int.lt_or_le (t * ws.getD k 0 / ws.sum) (t * ws.getD i 0 / ws.sum) with h | h
        · omega
        · exfalso
          have e : t * ws.getD k 0 / ws.sum = t * ws.getD i 0 / ws.sum := by omega
          have d1 := Int.mul_ediv_add_emod (t * ws.getD i 0) ws.sum
          have d2 := Int.mul_ediv_add_emod (t * ws.getD k 0) ws.sum
          rw [e] at d2
          have hmm : t * ws.getD k 0 = t * ws.getD i 0 := by omega
          rcases Int.lt_or_eq_of_le ht with h0 | h0
          · have := Int.eq_of_mul_eq_mul_left (show t ≠ 0 by omega) hmm
            omega
          · rw [← h0] at h4; simp at h4
  · have hk' : k < ws.length := by omega
    rw [hp i hi, hp k hk', he]
    cases hCk : C k with
    | true => simp only [if_true]; split <;> omega
    | false =>
      cases hCi : C i with
      | false => simp only [Bool.false_eq_true, if_false]; omega
      | true =>
        exfalso
        have h3 := c3 i k hCi hCk (by omega)
        rw [hr i hi, hr k hk', he] at h3
        omega

end Go.Proofs.YthpbadnedhjncabDoor
