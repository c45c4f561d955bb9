import Derived.Test.YtmlhcncagdfjfaaGreatOBase
namespace Go.Proofs.YtmlhcncagdfjfaaGreat
theorem fH {b : Int} : ∀ {l : List Int} {a : Int}, ce b a l = true ↔ (∀ z ∈ l, a < z ∧ z < b) ∧ l.Pairwise (· < ·)
 | [], a => by simp [ce]
 | n :: r, a => by
  unfold ce
  by_cases h : n ≤ a ∨ b ≤ n
  ·rw [if_pos h]
   simp
   omega
  rw [if_neg h, fH]
  simp only [List.mem_cons, forall_eq_or_imp, List.pairwise_cons]
  constructor
  ·rintro ⟨h1, h2⟩
   exact ⟨⟨by omega, fun z hz => by have := h1 z hz; omega⟩, fun z hz => (h1 z hz).1, h2⟩
  rintro ⟨⟨h1, h2⟩, h3, h4⟩
  exact ⟨fun z hz => ⟨h3 z hz, (h2 z hz).2⟩, h4⟩
def EX (zs : List Int) (p : Nat) (l : List Int) (q : Nat) : Prop := q = p + l.length ∧ q ≤ zs.length ∧ (zs.drop p).take l.length = l
section
variable {zs : List Int} (hz : ∀ z ∈ zs, 0 ≤ z ∧ z ≤ 255)
include hz
end
def ye : Nat → List (List Int) → List (List Int) → List (List Int)
 | _, F, [] => F
 | i, F, l :: r => ye (i + 1) (sO i F l) r
def A4 (lits : Int) : Nat → List (List Int) → Prop
 | _, [] => True
 | i, l :: r => l.length ≤ 64 ∧ ce lits i l = true ∧ A4 lits (i + 1) r
section
variable {zs : List Int} (hz : ∀ z ∈ zs, 0 ≤ z ∧ z ≤ 255)
include hz
def wT (lits : Int) (r : RuleM) : Prop := 1 ≤ r.kind ∧ r.kind < 4 ∧ 0 ≤ r.head ∧ r.head < lits ∧ r.body.length ≤ 16 ∧ ce lits (-1) r.body = true
end
theorem gY {α : Type} {p : Nat → α → Bool} : ∀ {l : List α} {i : Nat}, bQ p i l = none ↔ ∀ j x, l[j]? = some x → p (i + j) x = false
 | [], i => by simp [bQ]
 | y :: l, i => by
  unfold bQ
  by_cases h : p i y = true
  ·rw [if_pos h]
   constructor
   ·intro h; cases h
   intro h2; have := h2 0 y rfl; rw [Nat.add_zero, h] at this; cases this
  rw [if_neg h, gY]
  constructor
  ·intro h2 j x hx
   cases j with
   | zero => simp at hx; subst hx; simpa using h
   | succ j => have := h2 j x (by simpa using hx); rwa [show i + 1 + j = i + (j + 1) by omega] at this
  intro h2 j x hx
  have := h2 (j + 1) x (by simpa using hx)
  rwa [show i + (j + 1) = i + 1 + j by omega] at this
theorem mw {c : Int} (hc : c ≠ 0) {o : Option Nat} : (iY c o).1 = 0 ↔ o = none := by
 cases o <;> simp [iY, hc]
theorem vr {a b : Int × Int} : (eP a b).1 = 0 ↔ a.1 = 0 ∧ b.1 = 0 := by
 unfold eP
 by_cases h : a.1 = 0
 ·rw [if_pos h]; simp [h]
 rw [if_neg h]; simp [h]
structure zU (T : Th) : Prop where
 l0 : 0 ≤ T.lits
 l1 : T.lits ≤ 4096
 fl : (T.foes.length : Int) = T.lits
 foe : ∀ (i : Nat) l, T.foes[i]? = some l → l.length ≤ 64 ∧ ce T.lits (-1) l = true ∧ (i : Int) ∉ l ∧ ∀ f ∈ l, (i : Int) ∈ row T.foes f
 rl : T.rules.length ≤ 4096
 rule : ∀ r ∈ T.rules, wT T.lits r
 pr : pairsM T ≤ 65536
 bl : T.beats.length = T.rules.length
 beat : ∀ (i : Nat) l, T.beats[i]? = some l → ce T.rules.length (-1) l = true ∧ ∀ b ∈ l, aj T b ∈ row T.foes (aj T i)
 circle : ¬ lA T < T.rules.length
theorem qQ {T : Th} (h : (gh T).1 = 0) : (T.foes.length : Int) = T.lits ∧ ∀ (i : Nat) l, T.foes[i]? = some l → l.length ≤ 64 ∧ ce T.lits (-1) l = true ∧ (i : Int) ∉ l ∧ ∀ f ∈ l, (i : Int) ∈ row T.foes f := by
 unfold gh at h
 split at h
 ·cases h
 rename_i h1
 refine ⟨Decidable.byContradiction h1, fun i l hi => ?_⟩
 rw [mw (by decide), gY] at h
 have := h i l hi
 rw [Nat.zero_add] at this
 simp [ee, gF, bP] at this
 exact ⟨this.1.1.1, this.1.1.2, this.1.2, this.2⟩
theorem zh {lits : Int} {r : RuleM} : ed lits r = true ↔ wT lits r := by
 unfold ed wT bU bP
 simp only [Bool.and_eq_true, Bool.or_eq_true, decide_eq_true_eq]
 constructor
 ·rintro ⟨⟨⟨h1, h2, h3⟩, h4⟩, h5⟩
  exact ⟨by omega, by omega, h2, h3, h4, h5⟩
 rintro ⟨h1, h2, h3, h4, h5, h6⟩
 exact ⟨⟨⟨by omega, h3, h4⟩, h5⟩, h6⟩
theorem lI {T : Th} (h : (dL T).1 = 0) : T.rules.length ≤ 4096 ∧ ∀ r ∈ T.rules, wT T.lits r := by
 unfold dL at h
 split at h
 ·cases h
 rename_i h1
 refine ⟨by omega, fun r hr => ?_⟩
 rw [mw (by decide), gY] at h
 obtain ⟨i, hi, rfl⟩ := List.mem_iff_getElem.1 hr
 have := h i _ (List.getElem?_eq_getElem hi)
 exact zh.1 (by simpa using this)
theorem oP {T : Th} (h : (dY T).1 = 0) : T.beats.length = T.rules.length ∧ ∀ (i : Nat) l, T.beats[i]? = some l → ce T.rules.length (-1) l = true ∧ ∀ b ∈ l, aj T b ∈ row T.foes (aj T i) := by
 unfold dY at h
 split at h
 ·cases h
 rename_i h1
 refine ⟨Decidable.byContradiction h1, fun i l hi => ?_⟩
 rw [mw (by decide), gY] at h
 have := h i l hi
 rw [Nat.zero_add] at this
 simp [em, bP] at this
 exact this
theorem vp {T : Th} (h : (cO T).1 = 0) : zU T := by
 unfold cO at h
 split at h
 ·cases h
 rename_i h1
 simp only [vr] at h
 obtain ⟨h2, h3, h4, h5, h6⟩ := h
 obtain ⟨f1, f2⟩ := qQ h2
 obtain ⟨r1, r2⟩ := lI h3
 obtain ⟨b1, b2⟩ := oP h5
 refine ⟨by omega, by omega, f1, f2, r1, r2, ?_, b1, b2, ?_⟩
 ·unfold gC at h4
  split at h4
  ·cases h4
  omega
 intro hc
 unfold bM at h6
 rw [if_pos hc] at h6
 cases h6
def A3 (m : Nat) : Nat → List (List Int) → List Int
 | _, [] => []
 | i, l :: r => (if m = i then l else if (m : Int) ∈ l then [(i : Int)] else []) ++ A3 m (i + 1) r
def B8 (F : List (List Int)) : Nat → List (List Int)
 | 0 => []
 | k + 1 => B8 F k ++ [ua k (F.getD k [])]
theorem bn {F : List (List Int)} {z : Int} {l : List Int} (h : F[z.toNat]? = some l) : row F z = l := by unfold row; rw [List.getD_eq_getElem?_getD, h]; rfl
def D5 {α : Type} (zs : List Int) : Er (α × Nat) → Prop
 | .ok x => x.2 ≤ zs.length
 | .error (e, p) => e ≠ 0 ∧ 0 ≤ p ∧ p ≤ zs.length
section
variable {zs : List Int}
end
end Go.Proofs.YtmlhcncagdfjfaaGreat
