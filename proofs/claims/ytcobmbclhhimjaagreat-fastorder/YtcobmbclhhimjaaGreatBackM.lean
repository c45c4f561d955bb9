/- Bytes of theories, there and back: plain mathematics. -/
import Derived.Test.YtcobmbclhhimjaaGreatOBase
namespace Go.Proofs.YtcobmbclhhimjaaGreat

/-! Rising lists. -/
theorem rises_iff {b : Int} : ∀ {l : List Int} {a : Int}, risesF b a l = true ↔ (∀ z ∈ l, a < z ∧ z < b) ∧ l.Pairwise (· < ·)
  | [], a => by simp [risesF]
  | n :: r, a => by
    unfold risesF
    by_cases h : n ≤ a ∨ b ≤ n
    · rw [if_pos h]
      simp
      omega
    · rw [if_neg h, rises_iff]
      simp only [List.mem_cons, forall_eq_or_imp, List.pairwise_cons]
      constructor
      · rintro ⟨h1, h2⟩
        exact ⟨⟨by omega, fun z hz => by have := h1 z hz; omega⟩, fun z hz => (h1 z hz).1, h2⟩
      · rintro ⟨⟨h1, h2⟩, h3, h4⟩
        exact ⟨fun z hz => ⟨h3 z hz, (h2 z hz).2⟩, h4⟩
/-! Bytes that stand there. -/
def Lay (zs : List Int) (p : Nat) (l : List Int) (q : Nat) : Prop := q = p + l.length ∧ q ≤ zs.length ∧ (zs.drop p).take l.length = l
theorem Lay.nil {zs : List Int} {p q : Nat} : Lay zs p [] q ↔ q = p ∧ p ≤ zs.length := by unfold Lay; simp; omega
theorem Lay.whole {zs l : List Int} : Lay zs 0 l zs.length ↔ zs = l := by
  unfold Lay
  constructor
  · rintro ⟨h1, _, h3⟩
    rw [Nat.zero_add] at h1
    rw [← h1, List.drop_zero, List.take_length] at h3
    exact h3
  · rintro rfl
    simp

section
variable {zs : List Int} (hz : ∀ z ∈ zs, 0 ≤ z ∧ z ≤ 255)
include hz
end

/-! Foes. -/
def giveAll : Nat → List (List Int) → List (List Int) → List (List Int)
  | _, F, [] => F
  | i, F, l :: r => giveAll (i + 1) (giveM i F l) r
def okAb (lits : Int) : Nat → List (List Int) → Prop
  | _, [] => True
  | i, l :: r => l.length ≤ 64 ∧ risesF lits i l = true ∧ okAb lits (i + 1) r
section
variable {zs : List Int} (hz : ∀ z ∈ zs, 0 ≤ z ∧ z ≤ 255)
include hz
def okR (lits : Int) (r : RuleM) : Prop := 1 ≤ r.kind ∧ r.kind < 4 ∧ 0 ≤ r.head ∧ r.head < lits ∧ r.body.length ≤ 16 ∧ risesF lits (-1) r.body = true
end
end Go.Proofs.YtcobmbclhhimjaaGreat
/- What is checked; there and back. -/
namespace Go.Proofs.YtcobmbclhhimjaaGreat

theorem first_none {α : Type} {p : Nat → α → Bool} : ∀ {l : List α} {i : Nat}, firstB p i l = none ↔ ∀ j x, l[j]? = some x → p (i + j) x = false
  | [], i => by simp [firstB]
  | y :: l, i => by
    unfold firstB
    by_cases h : p i y = true
    · rw [if_pos h]
      constructor
      · intro h; cases h
      · intro h2; have := h2 0 y rfl; rw [Nat.add_zero, h] at this; cases this
    · rw [if_neg h, first_none]
      constructor
      · intro h2 j x hx
        cases j with
        | zero => simp at hx; subst hx; simpa using h
        | succ j => have := h2 j x (by simpa using hx); rwa [show i + 1 + j = i + (j + 1) by omega] at this
      · intro h2 j x hx
        have := h2 (j + 1) x (by simpa using hx)
        rwa [show i + (j + 1) = i + 1 + j by omega] at this
theorem atM_zero {c : Int} (hc : c ≠ 0) {o : Option Nat} : (atM c o).1 = 0 ↔ o = none := by
  cases o <;> simp [atM, hc]
theorem orM_zero {a b : Int × Int} : (orM a b).1 = 0 ↔ a.1 = 0 ∧ b.1 = 0 := by
  unfold orM
  by_cases h : a.1 = 0
  · rw [if_pos h]; simp [h]
  · rw [if_neg h]; simp [h]
structure OkT (T : Th) : Prop where
  l0 : 0 ≤ T.lits
  l1 : T.lits ≤ 4096
  fl : (T.foes.length : Int) = T.lits
  foe : ∀ (i : Nat) l, T.foes[i]? = some l → l.length ≤ 64 ∧ risesF T.lits (-1) l = true ∧ (i : Int) ∉ l ∧ ∀ f ∈ l, (i : Int) ∈ row T.foes f
  rl : T.rules.length ≤ 4096
  rule : ∀ r ∈ T.rules, okR T.lits r
  pr : pairsM T ≤ 65536
  bl : T.beats.length = T.rules.length
  beat : ∀ (i : Nat) l, T.beats[i]? = some l → risesF T.rules.length (-1) l = true ∧ ∀ b ∈ l, headOf T b ∈ row T.foes (headOf T i)
  circle : ¬ lowestM T < T.rules.length
theorem foe_ok {T : Th} (h : (foeM T).1 = 0) : (T.foes.length : Int) = T.lits ∧ ∀ (i : Nat) l, T.foes[i]? = some l → l.length ≤ 64 ∧ risesF T.lits (-1) l = true ∧ (i : Int) ∉ l ∧ ∀ f ∈ l, (i : Int) ∈ row T.foes f := by
  unfold foeM at h
  split at h
  · cases h
  rename_i h1
  refine ⟨Decidable.byContradiction h1, fun i l hi => ?_⟩
  rw [atM_zero (by decide), first_none] at h
  have := h i l hi
  rw [Nat.zero_add] at this
  simp [badFoe, returnedM, risesM] at this
  exact ⟨this.1.1.1, this.1.1.2, this.1.2, this.2⟩
theorem okR_of {lits : Int} {r : RuleM} : okRule lits r = true ↔ okR lits r := by
  unfold okRule okR inM risesM
  simp only [Bool.and_eq_true, Bool.or_eq_true, decide_eq_true_eq]
  constructor
  · rintro ⟨⟨⟨h1, h2, h3⟩, h4⟩, h5⟩
    exact ⟨by omega, by omega, h2, h3, h4, h5⟩
  · rintro ⟨h1, h2, h3, h4, h5, h6⟩
    exact ⟨⟨⟨by omega, h3, h4⟩, h5⟩, h6⟩
theorem rule_ok {T : Th} (h : (ruleM T).1 = 0) : T.rules.length ≤ 4096 ∧ ∀ r ∈ T.rules, okR T.lits r := by
  unfold ruleM at h
  split at h
  · cases h
  rename_i h1
  refine ⟨by omega, fun r hr => ?_⟩
  rw [atM_zero (by decide), first_none] at h
  obtain ⟨i, hi, rfl⟩ := List.mem_iff_getElem.1 hr
  have := h i _ (List.getElem?_eq_getElem hi)
  exact okR_of.1 (by simpa using this)
theorem beat_ok {T : Th} (h : (beatM T).1 = 0) : T.beats.length = T.rules.length ∧ ∀ (i : Nat) l, T.beats[i]? = some l → risesF T.rules.length (-1) l = true ∧ ∀ b ∈ l, headOf T b ∈ row T.foes (headOf T i) := by
  unfold beatM at h
  split at h
  · cases h
  rename_i h1
  refine ⟨Decidable.byContradiction h1, fun i l hi => ?_⟩
  rw [atM_zero (by decide), first_none] at h
  have := h i l hi
  rw [Nat.zero_add] at this
  simp [badBeat, risesM] at this
  exact this
theorem check_ok {T : Th} (h : (checkM T).1 = 0) : OkT T := by
  unfold checkM at h
  split at h
  · cases h
  rename_i h1
  simp only [orM_zero] at h
  obtain ⟨h2, h3, h4, h5, h6⟩ := h
  obtain ⟨f1, f2⟩ := foe_ok h2
  obtain ⟨r1, r2⟩ := rule_ok h3
  obtain ⟨b1, b2⟩ := beat_ok h5
  refine ⟨by omega, by omega, f1, f2, r1, r2, ?_, b1, b2, ?_⟩
  · unfold pairM at h4
    split at h4
    · cases h4
    · omega
  · intro hc
    unfold circleM at h6
    rw [if_pos hc] at h6
    cases h6
/-! Foes, gathered. -/
def gath (m : Nat) : Nat → List (List Int) → List Int
  | _, [] => []
  | i, l :: r => (if m = i then l else if (m : Int) ∈ l then [(i : Int)] else []) ++ gath m (i + 1) r
def abs (F : List (List Int)) : Nat → List (List Int)
  | 0 => []
  | k + 1 => abs F k ++ [aboveM k (F.getD k [])]
theorem row_at {F : List (List Int)} {z : Int} {l : List Int} (h : F[z.toNat]? = some l) : row F z = l := by unfold row; rw [List.getD_eq_getElem?_getD, h]; rfl
/-! Faults. -/
def Fine {α : Type} (zs : List Int) : Er (α × Nat) → Prop
  | .ok x => x.2 ≤ zs.length
  | .error (e, p) => e ≠ 0 ∧ 0 ≤ p ∧ p ≤ zs.length
theorem Fine.bind {α β : Type} {zs : List Int} {o : Er (α × Nat)} {f : α × Nat → Er (β × Nat)} (h : Fine zs o) (hf : ∀ x, x.2 ≤ zs.length → Fine zs (f x)) : Fine zs (o >>= f) := by
  cases o with
  | error e => exact h
  | ok x => exact hf x h
section
variable {zs : List Int}
end
end Go.Proofs.YtcobmbclhhimjaaGreat
