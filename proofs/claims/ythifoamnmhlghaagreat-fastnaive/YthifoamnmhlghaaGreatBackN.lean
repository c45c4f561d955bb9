/- What is checked; there and back. -/
import Derived.Test.YthifoamnmhlghaaGreatBackM
namespace Go.Proofs.YthifoamnmhlghaaGreat

theorem first_none {α : Type} {p : Nat → α → Bool} : ∀ {l : List α} {i : Nat}, firstB p i l = none ↔ ∀ j x, l[j]? = some x → p (i + j) x = false
  | [], i => by simp [firstB]
  | y :: l, i => by
    unfold firstB
    by_cases h : p i y = true
    · rw [if_pos h]
      constructor
      · intro h; cases h
      · intro h2; have := h2 0 y rfl; rw [Nat.add_zero, h] at this; cases this
    · rw [if_neg h, first_none]
      constructor
      · intro h2 j x hx
        cases j with
        | zero => simp at hx; subst hx; simpa using h
        | succ j => have := h2 j x (by simpa using hx); rwa [show i + 1 + j = i + (j + 1) by omega] at this
      · intro h2 j x hx
        have := h2 (j + 1) x (by simpa using hx)
        rwa [show i + (j + 1) = i + 1 + j by omega] at this
theorem atM_zero {c : Int} (hc : c ≠ 0) {o : Option Nat} : (atM c o).1 = 0 ↔ o = none := by
  cases o <;> simp [atM, hc]
theorem orM_zero {a b : Int × Int} : (orM a b).1 = 0 ↔ a.1 = 0 ∧ b.1 = 0 := by
  unfold orM
  by_cases h : a.1 = 0
  · rw [if_pos h]; simp [h]
  · rw [if_neg h]; simp [h]
structure OkT (T : Th) : Prop where
  l0 : 0 ≤ T.lits
  l1 : T.lits ≤ 4096
  fl : (T.foes.length : Int) = T.lits
  foe : ∀ (i : Nat) l, T.foes[i]? = some l → l.length ≤ 64 ∧ risesF T.lits (-1) l = true ∧ (i : Int) ∉ l ∧ ∀ f ∈ l, (i : Int) ∈ row T.foes f
  rl : T.rules.length ≤ 4096
  rule : ∀ r ∈ T.rules, okR T.lits r
  pr : pairsM T ≤ 65536
  bl : T.beats.length = T.rules.length
  beat : ∀ (i : Nat) l, T.beats[i]? = some l → risesF T.rules.length (-1) l = true ∧ ∀ b ∈ l, headOf T b ∈ row T.foes (headOf T i)
  circle : ¬ lowestM T < T.rules.length
theorem foe_ok {T : Th} (h : (foeM T).1 = 0) : (T.foes.length : Int) = T.lits ∧ ∀ (i : Nat) l, T.foes[i]? = some l → l.length ≤ 64 ∧ risesF T.lits (-1) l = true ∧ (i : Int) ∉ l ∧ ∀ f ∈ l, (i : Int) ∈ row T.foes f := by
  unfold foeM at h
  split at h
  · cases h
  rename_i h1
  refine ⟨Decidable.byContradiction h1, fun i l hi => ?_⟩
  rw [atM_zero (by decide), first_none] at h
  have := h i l hi
  rw [Nat.zero_add] at this
  simp [badFoe, returnedM, risesM] at this
  exact ⟨this.1.1.1, this.1.1.2, this.1.2, this.2⟩
theorem okR_of {lits : Int} {r : RuleM} : okRule lits r = true ↔ okR lits r := by
  unfold okRule okR inM risesM
  simp only [Bool.and_eq_true, Bool.or_eq_true, decide_eq_true_eq]
  constructor
  · rintro ⟨⟨⟨h1, h2, h3⟩, h4⟩, h5⟩
    exact ⟨by omega, by omega, h2, h3, h4, h5⟩
  · rintro ⟨h1, h2, h3, h4, h5, h6⟩
    exact ⟨⟨⟨by omega, h3, h4⟩, h5⟩, h6⟩
theorem rule_ok {T : Th} (h : (ruleM T).1 = 0) : T.rules.length ≤ 4096 ∧ ∀ r ∈ T.rules, okR T.lits r := by
  unfold ruleM at h
  split at h
  · cases h
  rename_i h1
  refine ⟨by omega, fun r hr => ?_⟩
  rw [atM_zero (by decide), first_none] at h
  obtain ⟨i, hi, rfl⟩ := List.mem_iff_getElem.1 hr
  have := h i _ (List.getElem?_eq_getElem hi)
  exact okR_of.1 (by simpa using this)
theorem beat_ok {T : Th} (h : (beatM T).1 = 0) : T.beats.length = T.rules.length ∧ ∀ (i : Nat) l, T.beats[i]? = some l → risesF T.rules.length (-1) l = true ∧ ∀ b ∈ l, headOf T b ∈ row T.foes (headOf T i) := by
  unfold beatM at h
  split at h
  · cases h
  rename_i h1
  refine ⟨Decidable.byContradiction h1, fun i l hi => ?_⟩
  rw [atM_zero (by decide), first_none] at h
  have := h i l hi
  rw [Nat.zero_add] at this
  simp [badBeat, risesM] at this
  exact this
theorem check_ok {T : Th} (h : (checkM T).1 = 0) : OkT T := by
  unfold checkM at h
  split at h
  · cases h
  rename_i h1
  simp only [orM_zero] at h
  obtain ⟨h2, h3, h4, h5, h6⟩ := h
  obtain ⟨f1, f2⟩ := foe_ok h2
  obtain ⟨r1, r2⟩ := rule_ok h3
  obtain ⟨b1, b2⟩ := beat_ok h5
  refine ⟨by omega, by omega, f1, f2, r1, r2, ?_, b1, b2, ?_⟩
  · unfold pairM at h4
    split at h4
    · cases h4
    · omega
  · intro hc
    unfold circleM at h6
    rw [if_pos hc] at h6
    cases h6
theorem check_zero {T : Th} (h : (checkM T).1 = 0) : checkM T = (0, 0) := by
  have key : ∀ {a b : Int × Int}, (a.1 = 0 → a = (0, 0)) → (b.1 = 0 → b = (0, 0)) → (orM a b).1 = 0 → orM a b = (0, 0) := by
    intro a b ha hb h
    unfold orM at h ⊢
    split
    · rename_i h1; rw [if_pos h1] at h; exact hb h
    · rename_i h1; rw [if_neg h1] at h; exact absurd h h1
  have k2 : ∀ {c : Int} {o : Option Nat}, c ≠ 0 → (atM c o).1 = 0 → atM c o = (0, 0) := by
    intro c o hc h
    cases o
    · rfl
    · exact absurd h hc
  unfold checkM at h ⊢
  split
  · rename_i h1; rw [if_pos h1] at h; cases h
  rename_i h1
  rw [if_neg h1] at h
  refine key ?_ (key ?_ (key ?_ (key ?_ ?_))) h
  · unfold foeM; split
    · intro h; cases h
    · exact k2 (by decide)
  · unfold ruleM; split
    · intro h; cases h
    · exact k2 (by decide)
  · unfold pairM; split
    · intro h; cases h
    · intro _; rfl
  · unfold beatM; split
    · intro h; cases h
    · exact k2 (by decide)
  · unfold circleM; split
    · intro h; cases h
    · intro _; rfl

/-! Foes, gathered. -/
def gath (m : Nat) : Nat → List (List Int) → List Int
  | _, [] => []
  | i, l :: r => (if m = i then l else if (m : Int) ∈ l then [(i : Int)] else []) ++ gath m (i + 1) r
theorem giveM_len {i : Nat} : ∀ {l : List Int} {F : List (List Int)}, (giveM i F l).length = F.length
  | [], F => rfl
  | f :: r, F => by unfold giveM; rw [giveM_len]; simp
theorem giveM_at {i m : Nat} {lits : Int} : ∀ {l : List Int} {F : List (List Int)} {a : Int}, (i : Int) ≤ a → risesF lits a l = true →
    (giveM i F l)[m]? = (F[m]?).map (· ++ (if m = i then l else if (m : Int) ∈ l then [(i : Int)] else []))
  | [], F, a, _, _ => by unfold giveM; cases F[m]? <;> simp
  | f :: r, F, a, hi, h => by
    unfold risesF at h
    split at h
    · cases h
    rename_i hf
    unfold giveM
    rw [giveM_at (by omega) h]
    have hp := (rises_iff.1 h).1
    rw [List.getElem?_modify, List.getElem?_modify]
    by_cases hm : m = i
    · subst hm
      have e1 : ¬ f.toNat = m := by omega
      cases F[m]? <;> simp [e1]
    · have e0 : ¬ i = m := by omega
      by_cases hmf : f.toNat = m
      · have e : (m : Int) = f := by omega
        have hn : (m : Int) ∉ r := fun hr => by have := (hp _ hr).1; omega
        rw [if_neg hm, if_neg hm, if_neg hn, if_pos (by simp [e])]
        cases F[m]? <;> simp [e0, hmf]
      · have : ((m : Int) ∈ f :: r) ↔ (m : Int) ∈ r := by
          simp only [List.mem_cons]
          constructor
          · rintro (h | h)
            · omega
            · exact h
          · exact .inr
        simp only [this, if_neg hm]
        cases F[m]? <;> simp [e0, hmf]
theorem giveAll_at {m : Nat} {lits : Int} : ∀ {A : List (List Int)} {i : Nat} {F : List (List Int)}, okAb lits i A → (giveAll i F A)[m]? = (F[m]?).map (· ++ gath m i A)
  | [], i, F, _ => by unfold giveAll gath; cases F[m]? <;> simp
  | l :: A, i, F, h => by
    obtain ⟨_, h2, h3⟩ := h
    unfold giveAll gath
    rw [giveAll_at h3, giveM_at (Int.le_refl _) h2]
    cases F[m]? <;> simp
theorem giveAll_len : ∀ {A : List (List Int)} {i : Nat} {F : List (List Int)}, (giveAll i F A).length = F.length
  | [], i, F => rfl
  | l :: A, i, F => by unfold giveAll; rw [giveAll_len, giveM_len]
theorem gath_mem {m : Nat} {z : Int} : ∀ {A : List (List Int)} {i : Nat}, z ∈ gath m i A ↔ ∃ j l, A[j]? = some l ∧ ((m = i + j ∧ z ∈ l) ∨ (m ≠ i + j ∧ z = (i + j : Nat) ∧ (m : Int) ∈ l))
  | [], i => by simp [gath]
  | l :: A, i => by
    unfold gath
    rw [List.mem_append, gath_mem]
    constructor
    · rintro (h | ⟨j, l', h1, h2⟩)
      · refine ⟨0, l, rfl, ?_⟩
        by_cases e : m = i
        · rw [if_pos e] at h; exact .inl ⟨by omega, h⟩
        · rw [if_neg e] at h
          by_cases e2 : (m : Int) ∈ l
          · rw [if_pos e2] at h; simp at h; exact .inr ⟨by omega, by simpa using h, e2⟩
          · rw [if_neg e2] at h; cases h
      · refine ⟨j + 1, l', by simpa using h1, ?_⟩
        rw [show i + (j + 1) = i + 1 + j by omega]
        exact h2
    · rintro ⟨j, l', h1, h2⟩
      cases j with
      | zero =>
        simp at h1
        subst h1
        refine .inl ?_
        rcases h2 with ⟨e, h⟩ | ⟨e, h3, h4⟩
        · rw [if_pos (by omega)]; exact h
        · rw [if_neg (by omega), if_pos h4]; simpa using h3
      | succ j =>
        refine .inr ⟨j, l', by simpa using h1, ?_⟩
        rw [show i + 1 + j = i + (j + 1) by omega]
        exact h2
theorem okAb_at {lits : Int} : ∀ {A : List (List Int)} {i j : Nat} {l : List Int}, okAb lits i A → A[j]? = some l → l.length ≤ 64 ∧ risesF lits (i + j : Nat) l = true
  | [], i, j, l, _, h => by simp at h
  | x :: A, i, j, l, h, hj => by
    cases j with
    | zero => simp at hj; subst hj; exact ⟨h.1, h.2.1⟩
    | succ j => have := okAb_at h.2.2 (j := j) (by simpa using hj); rwa [show i + 1 + j = i + (j + 1) by omega] at this
/-- What is gathered: those below, then its own. -/
theorem gath_split {m : Nat} {lits : Int} : ∀ {A : List (List Int)} {i : Nat}, okAb lits i A → i ≤ m → m < i + A.length → ∃ xs l, A[m - i]? = some l ∧ gath m i A = xs ++ l ∧ (∀ z ∈ xs, (i : Int) ≤ z ∧ z < m) ∧ xs.Pairwise (· < ·)
  | [], i, _, h1, h2 => by simp at h2; omega
  | x :: A, i, h, h1, h2 => by
    unfold gath
    by_cases e : m = i
    · subst e
      rw [if_pos rfl]
      have hg : gath m (m + 1) A = [] := by
        apply List.eq_nil_iff_forall_not_mem.2
        intro z hz
        obtain ⟨j, l, hj, h3 | ⟨_, _, h3⟩⟩ := gath_mem.1 hz
        · omega
        · have := (rises_iff.1 (okAb_at h.2.2 hj).2).1 _ h3
          omega
      refine ⟨[], x, by simp, by rw [hg]; simp, by simp, List.Pairwise.nil⟩
    · rw [if_neg e]
      obtain ⟨xs, l, h3, h4, h5, h6⟩ := gath_split (m := m) (i := i + 1) h.2.2 (by omega) (by simp at h2; omega)
      have e2 : m - i = (m - (i + 1)) + 1 := by omega
      refine ⟨(if (m : Int) ∈ x then [(i : Int)] else []) ++ xs, l, by rw [e2]; simpa using h3, by rw [h4]; simp, ?_, ?_⟩
      · intro z hz
        rcases List.mem_append.1 hz with hz | hz
        · split at hz
          · simp at hz; omega
          · cases hz
        · have := h5 z hz; omega
      · rw [List.pairwise_append]
        refine ⟨by split <;> simp, h6, fun a ha b hb => ?_⟩
        have := h5 b hb
        split at ha
        · simp at ha; omega
        · cases ha
theorem drop_all {p : Int → Bool} : ∀ {xs l : List Int}, (∀ z ∈ xs, p z = true) → (xs ++ l).dropWhile p = l.dropWhile p
  | [], l, _ => rfl
  | x :: xs, l, h => by
    rw [List.cons_append, List.dropWhile_cons, if_pos (h x (by simp))]
    exact drop_all fun z hz => h z (by simp [hz])
theorem drop_none {p : Int → Bool} {l : List Int} (h : ∀ z ∈ l, p z = false) : l.dropWhile p = l := by
  cases l with
  | nil => rfl
  | cons x r => rw [List.dropWhile_cons, if_neg (by rw [h x (by simp)]; decide)]
theorem foesB_flat : ∀ {F : List (List Int)} {i : Nat} {A : List (List Int)}, A.length = F.length → (∀ j l a, F[j]? = some l → A[j]? = some a → aboveM (i + j : Nat) l = a) → foesB i F = A.flatMap listB
  | [], i, A, h, _ => by
    have := List.eq_nil_of_length_eq_zero h
    subst this
    rfl
  | l :: F, i, A, h, hA => by
    cases A with
    | nil => cases h
    | cons a A =>
      unfold foesB
      rw [List.flatMap_cons]
      have h0 := hA 0 l a rfl rfl
      rw [show ((i + 0 : Nat) : Int) = i by simp] at h0
      rw [h0, foesB_flat (by simpa using h) fun j l' a' h1 h2 => by
        have := hA (j + 1) l' a' (by simpa using h1) (by simpa using h2)
        rwa [show i + (j + 1) = i + 1 + j by omega] at this]
/-- What is read is laid so. -/
theorem back_read {zs : List Int} (hz : ∀ z ∈ zs, 0 ≤ z ∧ z ≤ 255) {T : Th} (h : wholeM zs = .ok T) : (checkM T).1 = 0 ∧ encM T = zs := by
  obtain ⟨A, h1, h2, h3, h4, h5, h6, h7, h8, h9, h10, h11⟩ := (whole_iff hz).1 h
  refine ⟨h2, ?_⟩
  have e : foesB 0 T.foes = A.flatMap listB := by
    have hl : A.length = T.foes.length := by rw [h7, giveAll_len, List.length_replicate]; omega
    refine foesB_flat hl fun j l a hl' ha => ?_
    have hj : j < A.length := (List.getElem?_eq_some_iff.1 ha).1
    rw [h7, giveAll_at h6, List.getElem?_replicate, if_pos (by omega)] at hl'
    simp at hl'
    subst hl'
    obtain ⟨xs, l, g1, g2, g3, g4⟩ := gath_split (m := j) h6 (by omega) (by omega)
    rw [Nat.sub_zero, ha] at g1
    cases g1
    rw [g2]
    unfold aboveM
    rw [drop_all fun z hz => by have := g3 z hz; simp; omega]
    refine drop_none fun z hz => ?_
    have := (rises_iff.1 (okAb_at h6 ha).2).1 z hz
    simp
    omega
  rw [h1]
  unfold encM
  rw [e]
theorem above_rises {l : List Int} {b a i : Int} (h : risesF b a l = true) : (∀ z ∈ aboveM i l, i < z ∧ z < b) ∧ (aboveM i l).Pairwise (· < ·) ∧ (∀ z, z ∈ aboveM i l ↔ z ∈ l ∧ i < z) := by
  unfold aboveM
  induction l generalizing a with
  | nil => simp
  | cons x r ih =>
    obtain ⟨h1, h2⟩ := rises_iff.1 h
    rw [List.pairwise_cons] at h2
    rw [List.dropWhile_cons]
    by_cases hx : x ≤ i
    · rw [if_pos (by simpa using hx)]
      obtain ⟨a1, a2, a3⟩ := ih (a := a) (rises_iff.2 ⟨fun z hz => h1 z (by simp [hz]), h2.2⟩)
      refine ⟨a1, a2, fun z => ?_⟩
      rw [a3]
      simp only [List.mem_cons]
      constructor
      · rintro ⟨h3, h4⟩; exact ⟨.inr h3, h4⟩
      · rintro ⟨h3 | h3, h4⟩
        · omega
        · exact ⟨h3, h4⟩
    · rw [if_neg (by simpa using hx)]
      refine ⟨fun z hz => ?_, List.pairwise_cons.2 h2, fun z => ⟨fun hz => ⟨hz, ?_⟩, fun hz => hz.1⟩⟩
      · have := (h1 z hz).2
        rcases List.mem_cons.1 hz with rfl | hz
        · omega
        · have := h2.1 z hz; omega
      · rcases List.mem_cons.1 hz with rfl | hz
        · omega
        · have := h2.1 z hz; omega
def abs (F : List (List Int)) : Nat → List (List Int)
  | 0 => []
  | k + 1 => abs F k ++ [aboveM k (F.getD k [])]
theorem abs_len {F : List (List Int)} : ∀ {k : Nat}, (abs F k).length = k
  | 0 => rfl
  | k + 1 => by unfold abs; simp [abs_len]
theorem abs_at {F : List (List Int)} : ∀ {k j : Nat}, j < k → (abs F k)[j]? = some (aboveM j (F.getD j []))
  | 0, j, h => by omega
  | k + 1, j, h => by
    unfold abs
    by_cases e : j = k
    · subst e
      rw [List.getElem?_append_right (by rw [abs_len]; exact Nat.le_refl _), abs_len, Nat.sub_self]
      rfl
    · rw [List.getElem?_append_left (by rw [abs_len]; omega)]
      exact abs_at (by omega)
theorem okAb_of {lits : Int} : ∀ {A : List (List Int)} {i : Nat}, (∀ j l, A[j]? = some l → l.length ≤ 64 ∧ risesF lits (i + j : Nat) l = true) → okAb lits i A
  | [], i, _ => trivial
  | x :: A, i, h => ⟨(h 0 x rfl).1, (h 0 x rfl).2, okAb_of fun j l hl => by have := h (j + 1) l (by simpa using hl); rwa [show i + (j + 1) = i + 1 + j by omega] at this⟩
theorem row_at {F : List (List Int)} {z : Int} {l : List Int} (h : F[z.toNat]? = some l) : row F z = l := by unfold row; rw [List.getD_eq_getElem?_getD, h]; rfl
theorem above_len {i : Int} {l : List Int} : (aboveM i l).length ≤ l.length := (List.dropWhile_sublist _).length_le
/-- What is laid is read so. -/
theorem back_laid {T : Th} (h : (checkM T).1 = 0) : ∃ A, encM T = markB ++ numB T.lits ++ A.flatMap listB ++ numB T.rules.length ++ T.rules.flatMap ruleB ++ T.beats.flatMap listB ∧
    (A.length : Int) = T.lits ∧ okAb T.lits 0 A ∧ T.foes = giveAll 0 (List.replicate T.lits.toNat []) A := by
  have hT := check_ok h
  have hn : T.foes.length = T.lits.toNat := by have := hT.fl; omega
  have hget : ∀ j, j < T.foes.length → T.foes[j]? = some (T.foes.getD j []) := fun j hj => by rw [List.getD_eq_getElem?_getD, List.getElem?_eq_getElem hj]; rfl
  have hAt : ∀ j l, (abs T.foes T.foes.length)[j]? = some l → j < T.foes.length ∧ l = aboveM j (T.foes.getD j []) := fun j l hl => by
    have hj : j < T.foes.length := by have := (List.getElem?_eq_some_iff.1 hl).1; rwa [abs_len] at this
    rw [abs_at hj] at hl
    cases hl
    exact ⟨hj, rfl⟩
  have hok : okAb T.lits 0 (abs T.foes T.foes.length) := okAb_of fun j l hl => by
    obtain ⟨hj, rfl⟩ := hAt j l hl
    obtain ⟨f1, f2, f3, f4⟩ := hT.foe j _ (hget j hj)
    obtain ⟨a1, a2, _⟩ := above_rises (i := j) f2
    refine ⟨Nat.le_trans above_len f1, rises_iff.2 ⟨?_, a2⟩⟩
    rw [Nat.zero_add]
    exact a1
  refine ⟨abs T.foes T.foes.length, ?_, by rw [abs_len]; exact hT.fl, hok, ?_⟩
  · have e : foesB 0 T.foes = (abs T.foes T.foes.length).flatMap listB := foesB_flat abs_len fun j l a hl ha => by
      obtain ⟨hj, rfl⟩ := hAt j a ha
      rw [hget j hj] at hl
      cases hl
      rw [Nat.zero_add]
    unfold encM
    rw [e]
  · apply List.ext_getElem?
    intro m
    rw [giveAll_at hok, List.getElem?_replicate]
    by_cases hm : m < T.foes.length
    · rw [if_pos (by omega), hget m hm]
      simp only [Option.map_some, List.nil_append, Option.some.injEq]
      obtain ⟨f1, f2, f3, f4⟩ := hT.foe m _ (hget m hm)
      obtain ⟨r1, r2⟩ := rises_iff.1 f2
      obtain ⟨xs, l, g1, g2, g3, g4⟩ := gath_split (m := m) hok (by omega) (by rw [abs_len]; omega)
      rw [Nat.sub_zero] at g1
      obtain ⟨_, rfl⟩ := hAt m l g1
      obtain ⟨a1, a2, a3⟩ := above_rises (i := m) f2
      refine pw_ext r2 ?_ fun z => ?_
      · rw [g2, List.pairwise_append]
        exact ⟨g4, a2, fun a ha b hb => by have := g3 a ha; have := a1 b hb; omega⟩
      · rw [gath_mem]
        constructor
        · intro hz'
          have hb := r1 z hz'
          by_cases hzm : (m : Int) < z
          · exact ⟨m, _, abs_at hm, .inl ⟨by omega, (a3 z).2 ⟨hz', hzm⟩⟩⟩
          · have hne : z ≠ (m : Int) := fun e => f3 (e ▸ hz')
            have hzn : z.toNat < T.foes.length := by have := hT.fl; omega
            have h4 := f4 z hz'
            rw [row_at (hget _ hzn)] at h4
            obtain ⟨_, q2, _, _⟩ := hT.foe z.toNat _ (hget _ hzn)
            refine ⟨z.toNat, _, abs_at hzn, .inr ⟨by omega, by omega, ((above_rises (i := z.toNat) q2).2.2 m).2 ⟨h4, by omega⟩⟩⟩
        · rintro ⟨j, l, h1, h2⟩
          obtain ⟨hj, rfl⟩ := hAt j l h1
          rcases h2 with ⟨e, h2⟩ | ⟨e, h2, h3⟩
          · have e : m = j := by omega
            subst e
            exact ((a3 z).1 h2).1
          · obtain ⟨_, q2, _, q4⟩ := hT.foe j _ (hget j hj)
            have h5 := ((above_rises (i := j) q2).2.2 m).1 h3
            have h6 := q4 _ h5.1
            have e2 : z = (j : Int) := by omega
            rw [row_at (z := (m : Int)) (hget m hm)] at h6
            rw [e2]
            exact h6
    · rw [if_neg (by omega), List.getElem?_eq_none (by omega)]
      rfl
theorem numB_byte {n : Int} (h0 : 0 ≤ n) (h1 : n < 18446744073709551616) : ∀ z ∈ numB n, 0 ≤ z ∧ z ≤ 255 := uintB_byte 9 n h0 (by have : (18446744073709551616 : Int) ≤ 128 ^ 10 := by decide
                                                                                                                                  omega)
theorem listB_byte {l : List Int} {b a : Int} (h : risesF b a l = true) (ha : -1 ≤ a) (hb : b ≤ 4096) : ∀ z ∈ listB l, 0 ≤ z ∧ z ≤ 255 := by
  have h1 := rises_len h
  have h2 := (rises_iff.1 h).1
  intro z hz
  unfold listB numsB at hz
  rcases List.mem_append.1 hz with hz | hz
  · exact numB_byte (by omega) (by omega) z hz
  · obtain ⟨n, hn, hz⟩ := List.mem_flatMap.1 hz
    have := h2 n hn
    exact numB_byte (by omega) (by omega) z hz
theorem enc_byte {T : Th} (h : (checkM T).1 = 0) : ∀ z ∈ encM T, 0 ≤ z ∧ z ≤ 255 := by
  have hT := check_ok h
  obtain ⟨A, e, hA1, hA, _⟩ := back_laid h
  rw [e]
  have := hT.l0
  have := hT.l1
  have := hT.rl
  intro z hz
  simp only [List.mem_append, or_assoc] at hz
  rcases hz with hz | hz | hz | hz | hz | hz
  · unfold markB at hz; simp at hz; omega
  · exact numB_byte (by omega) (by omega) z hz
  · obtain ⟨l, hl, hz⟩ := List.mem_flatMap.1 hz
    obtain ⟨i, hi, rfl⟩ := List.mem_iff_getElem.1 hl
    exact listB_byte (okAb_at hA (List.getElem?_eq_getElem hi)).2 (by omega) (by omega) z hz
  · exact numB_byte (by omega) (by omega) z hz
  · obtain ⟨r, hr, hz⟩ := List.mem_flatMap.1 hz
    obtain ⟨k1, k2, k3, k4, k5, k6⟩ := hT.rule r hr
    unfold ruleB at hz
    simp only [List.mem_append, or_assoc] at hz
    rcases hz with hz | hz | hz
    · exact numB_byte (by omega) (by omega) z hz
    · exact numB_byte (by omega) (by omega) z hz
    · exact listB_byte k6 (by omega) (by omega) z hz
  · obtain ⟨l, hl, hz⟩ := List.mem_flatMap.1 hz
    obtain ⟨i, hi, rfl⟩ := List.mem_iff_getElem.1 hl
    exact listB_byte (hT.beat i _ (List.getElem?_eq_getElem hi)).1 (by omega) (by omega) z hz
theorem back_told {T : Th} (h : (checkM T).1 = 0) : wholeM (encM T) = .ok T := by
  have hT := check_ok h
  obtain ⟨A, h1, h2, h3, h4⟩ := back_laid h
  refine (whole_iff (enc_byte h)).2 ⟨A, h1, h, hT.l0, hT.l1, h2, h3, h4, hT.rl, hT.rule, hT.bl, fun r hr => ?_⟩
  obtain ⟨i, hi, rfl⟩ := List.mem_iff_getElem.1 hr
  exact (hT.beat i _ (List.getElem?_eq_getElem hi)).1

/-! Faults. -/
def Fine {α : Type} (zs : List Int) : Er (α × Nat) → Prop
  | .ok x => x.2 ≤ zs.length
  | .error (e, p) => e ≠ 0 ∧ 0 ≤ p ∧ p ≤ zs.length
theorem Fine.bind {α β : Type} {zs : List Int} {o : Er (α × Nat)} {f : α × Nat → Er (β × Nat)} (h : Fine zs o) (hf : ∀ x, x.2 ≤ zs.length → Fine zs (f x)) : Fine zs (o >>= f) := by
  cases o with
  | error e => exact h
  | ok x => exact hf x h
theorem rd_fine : ∀ (l : List Int) (len p : Int) (k : Nat) (acc : Int), 0 ≤ p → p + k + l.length ≤ len → 0 ≤ (rd len p k acc l).2.1 ∧ (rd len p k acc l).2.1 ≤ len
  | [], len, p, k, acc, h0, h => by simp [rd]; simp at h; omega
  | c :: r, len, p, k, acc, h0, h => by
    simp only [List.length_cons] at h
    unfold rd
    split
    · simp; omega
    · split
      · exact rd_fine r len p (k + 1) _ h0 (by omega)
      · split
        · simp; omega
        · simp; omega
section
variable {zs : List Int}
theorem num_fine {least below other : Int} (ho : other ≠ 0) {p : Nat} (hp : p ≤ zs.length) : Fine zs (numM zs least below other p) := by
  have hr : 0 ≤ (readU zs p).2.1 ∧ (readU zs p).2.1 ≤ zs.length := by
    unfold readU
    rw [if_neg (by omega)]
    refine rd_fine _ _ _ _ _ (by omega) ?_
    rw [List.length_drop]
    omega
  unfold numM
  split
  · rename_i h; exact ⟨h, hr.1, hr.2⟩
  · split
    · exact ⟨ho, by omega, by omega⟩
    · show (readU zs p).2.1.toNat ≤ zs.length; omega
theorem nums_fine {below other : Int} (ho : other ≠ 0) : ∀ {k : Nat} {least : Int} {acc : List Int} {p : Nat}, p ≤ zs.length → Fine zs (numsM zs below other k least acc p)
  | 0, _, _, _, hp => hp
  | _ + 1, _, _, _, hp => (num_fine ho hp).bind fun _ hx => nums_fine ho hx
theorem list_fine {most least below other : Int} (ho : other ≠ 0) {p : Nat} (hp : p ≤ zs.length) : Fine zs (listM zs most least below other p) := (num_fine (by decide) hp).bind fun _ hx => nums_fine ho hx
theorem foes_fine {lits : Int} : ∀ {k i : Nat} {F : List (List Int)} {p : Nat}, p ≤ zs.length → Fine zs (foesM zs lits k i F p)
  | 0, _, _, _, hp => hp
  | _ + 1, _, _, _, hp => (list_fine (by decide) hp).bind fun _ hx => foes_fine hx
theorem oneRule_fine {lits : Int} {p : Nat} (hp : p ≤ zs.length) : Fine zs (oneRuleM zs lits p) :=
  (num_fine (by decide) hp).bind fun _ hx => (num_fine (by decide) hx).bind fun _ hy => (list_fine (by decide) hy).bind fun _ hw => hw
theorem rules_fine {lits : Int} : ∀ {k : Nat} {R : List RuleM} {p : Nat}, p ≤ zs.length → Fine zs (rulesM zs lits k R p)
  | 0, _, _, hp => hp
  | _ + 1, _, _, hp => (oneRule_fine hp).bind fun _ hx => rules_fine hx
theorem beats_fine {n : Int} : ∀ {k : Nat} {R : List (List Int)} {p : Nat}, p ≤ zs.length → Fine zs (beatsM zs n k R p)
  | 0, _, _, hp => hp
  | _ + 1, _, _, hp => (list_fine (by decide) hp).bind fun _ hx => beats_fine hx
theorem mark_fine : ∀ {k i : Nat}, i ≤ zs.length → (markM zs k i = .ok () ∧ i + k ≤ zs.length) ∨ ∃ e p, markM zs k i = .error (e, p) ∧ e ≠ 0 ∧ 0 ≤ p ∧ p ≤ zs.length
  | 0, i, h => .inl ⟨rfl, by omega⟩
  | k + 1, i, h => by
    unfold markM
    split
    · exact .inr ⟨8, i, rfl, by decide, by omega, by omega⟩
    · split
      · exact .inr ⟨1, i, rfl, by decide, by omega, by omega⟩
      · rcases mark_fine (k := k) (i := i + 1) (by omega) with ⟨h1, h2⟩ | h1
        · exact .inl ⟨h1, by omega⟩
        · exact .inr h1
theorem whole_err {e p : Int} (h : wholeM zs = .error (e, p)) : e ≠ 0 ∧ 0 ≤ p ∧ p ≤ zs.length := by
  unfold wholeM at h
  rcases mark_fine (zs := zs) (k := 4) (i := 0) (by omega) with ⟨h1, h2⟩ | ⟨e', p', h1, h2⟩
  · rw [h1] at h
    have key : ∀ o : Er (Th × Nat), Fine zs o → (o >>= fun x => tailM zs x.1 x.2) = .error (e, p) → e ≠ 0 ∧ 0 ≤ p ∧ p ≤ zs.length := by
      intro o ho hx
      cases o with
      | error q => cases hx; exact ho
      | ok x =>
        change tailM zs x.1 x.2 = _ at hx
        have hx2 : x.2 ≤ zs.length := ho
        unfold tailM at hx
        split at hx
        · cases hx; exact ⟨by decide, by omega, by omega⟩
        · split at hx
          · rename_i hc; cases hx; exact ⟨hc, by omega, by omega⟩
          · cases hx
    refine key (countM zs 4096 4 >>= fun n => foesM zs n.1 n.1.toNat 0 (List.replicate n.1.toNat []) n.2 >>= fun F => allRulesM zs n.1 F.2 >>= fun R => beatsM zs R.1.length R.1.length [] R.2 >>= fun b => .ok (⟨n.1, F.1, R.1, b.1⟩, b.2)) ?_ ?_
    · exact (num_fine (by decide) (by omega)).bind fun _ hx => (foes_fine hx).bind fun _ hy => ((num_fine (by decide) hy).bind fun _ hw => rules_fine hw).bind fun _ hu => (beats_fine hu).bind fun _ hv => hv
    · rw [← h]
      simp only [bind_assoc]
      rfl
  · rw [h1] at h
    cases h
    exact h2
end
end Go.Proofs.YthifoamnmhlghaaGreat
