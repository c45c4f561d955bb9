import Derived.Test.YtmlhcncagdfjfaaGreatOBase
namespace Go.Proofs.YtmlhcncagdfjfaaGreat
theorem fP {b : Int} : ∀ {l : List Int} {a : Int}, cg b a l = true ↔ (∀ z ∈ l, a < z ∧ z < b) ∧ l.Pairwise (· < ·)
 | [], a => by simp [cg]
 | n :: r, a => by
  unfold cg
  by_cases h : n ≤ a ∨ b ≤ n
  · rw [if_pos h]
    simp
    omega
  · rw [if_neg h, fP]
    simp only [List.mem_cons, forall_eq_or_imp, List.pairwise_cons]
    constructor
    · rintro ⟨h1, h2⟩
      exact ⟨⟨by omega, fun z hz => by have := h1 z hz; omega⟩, fun z hz => (h1 z hz).1, h2⟩
    · rintro ⟨⟨h1, h2⟩, h3, h4⟩
      exact ⟨fun z hz => ⟨h3 z hz, (h2 z hz).2⟩, h4⟩
def B6 (zs : List Int) (p : Nat) (l : List Int) (q : Nat) : Prop := q = p + l.length ∧ q ≤ zs.length ∧ (zs.drop p).take l.length = l
section
variable {zs : List Int} (hz : ∀ z ∈ zs, 0 ≤ z ∧ z ≤ 255)
include hz
end
def yf : Nat → List (List Int) → List (List Int) → List (List Int)
 | _, F, [] => F
 | i, F, l :: r => yf (i + 1) (sP i F l) r
def zU (lits : Int) : Nat → List (List Int) → Prop
 | _, [] => True
 | i, l :: r => l.length ≤ 64 ∧ cg lits i l = true ∧ zU lits (i + 1) r
section
variable {zs : List Int} (hz : ∀ z ∈ zs, 0 ≤ z ∧ z ≤ 255)
include hz
def xf (lits : Int) (r : RuleM) : Prop := 1 ≤ r.kind ∧ r.kind < 4 ∧ 0 ≤ r.head ∧ r.head < lits ∧ r.body.length ≤ 16 ∧ cg lits (-1) r.body = true
end
theorem iz {α : Type} {p : Nat → α → Bool} : ∀ {l : List α} {i : Nat}, bU p i l = none ↔ ∀ j x, l[j]? = some x → p (i + j) x = false
 | [], i => by simp [bU]
 | y :: l, i => by
  unfold bU
  by_cases h : p i y = true
  · rw [if_pos h]
    constructor
    · intro h; cases h
    · intro h2; have := h2 0 y rfl; rw [Nat.add_zero, h] at this; cases this
  · rw [if_neg h, iz]
    constructor
    · intro h2 j x hx
      cases j with
      | zero => simp at hx; subst hx; simpa using h
      | succ j => have := h2 j x (by simpa using hx); rwa [show i + 1 + j = i + (j + 1) by omega] at this
    · intro h2 j x hx
      have := h2 (j + 1) x (by simpa using hx)
      rwa [show i + (j + 1) = i + 1 + j by omega] at this
theorem mA {c : Int} (hc : c ≠ 0) {o : Option Nat} : (jo c o).1 = 0 ↔ o = none := by
 cases o <;> simp [jo, hc]
theorem vn {a b : Int × Int} : (eX a b).1 = 0 ↔ a.1 = 0 ∧ b.1 = 0 := by
 unfold eX
 by_cases h : a.1 = 0
 · rw [if_pos h]; simp [h]
 · rw [if_neg h]; simp [h]
structure zM (T : Th) : Prop where
 l0 : 0 ≤ T.lits
 l1 : T.lits ≤ 4096
 fl : (T.foes.length : Int) = T.lits
 foe : ∀ (i : Nat) l, T.foes[i]? = some l → l.length ≤ 64 ∧ cg T.lits (-1) l = true ∧ (i : Int) ∉ l ∧ ∀ f ∈ l, (i : Int) ∈ row T.foes f
 rl : T.rules.length ≤ 4096
 rule : ∀ r ∈ T.rules, xf T.lits r
 pr : pairsM T ≤ 65536
 bl : T.beats.length = T.rules.length
 beat : ∀ (i : Nat) l, T.beats[i]? = some l → cg T.rules.length (-1) l = true ∧ ∀ b ∈ l, ag T b ∈ row T.foes (ag T i)
 circle : ¬ lz T < T.rules.length
theorem pR {T : Th} (h : (gn T).1 = 0) : (T.foes.length : Int) = T.lits ∧ ∀ (i : Nat) l, T.foes[i]? = some l → l.length ≤ 64 ∧ cg T.lits (-1) l = true ∧ (i : Int) ∉ l ∧ ∀ f ∈ l, (i : Int) ∈ row T.foes f := by
 unfold gn at h
 split at h
 · cases h
 rename_i h1
 refine ⟨Decidable.byContradiction h1, fun i l hi => ?_⟩
 rw [mA (by decide), iz] at h
 have := h i l hi
 rw [Nat.zero_add] at this
 simp [eC, gZ, cK] at this
 exact ⟨this.1.1.1, this.1.1.2, this.1.2, this.2⟩
theorem yJ {lits : Int} {r : RuleM} : eD lits r = true ↔ xf lits r := by
 unfold eD xf cJ cK
 simp only [Bool.and_eq_true, Bool.or_eq_true, decide_eq_true_eq]
 constructor
 · rintro ⟨⟨⟨h1, h2, h3⟩, h4⟩, h5⟩
   exact ⟨by omega, by omega, h2, h3, h4, h5⟩
 · rintro ⟨h1, h2, h3, h4, h5, h6⟩
   exact ⟨⟨⟨by omega, h3, h4⟩, h5⟩, h6⟩
theorem lG {T : Th} (h : (dZ T).1 = 0) : T.rules.length ≤ 4096 ∧ ∀ r ∈ T.rules, xf T.lits r := by
 unfold dZ at h
 split at h
 · cases h
 rename_i h1
 refine ⟨by omega, fun r hr => ?_⟩
 rw [mA (by decide), iz] at h
 obtain ⟨i, hi, rfl⟩ := List.mem_iff_getElem.1 hr
 have := h i _ (List.getElem?_eq_getElem hi)
 exact yJ.1 (by simpa using this)
theorem om {T : Th} (h : (ep T).1 = 0) : T.beats.length = T.rules.length ∧ ∀ (i : Nat) l, T.beats[i]? = some l → cg T.rules.length (-1) l = true ∧ ∀ b ∈ l, ag T b ∈ row T.foes (ag T i) := by
 unfold ep at h
 split at h
 · cases h
 rename_i h1
 refine ⟨Decidable.byContradiction h1, fun i l hi => ?_⟩
 rw [mA (by decide), iz] at h
 have := h i l hi
 rw [Nat.zero_add] at this
 simp [eL, cK] at this
 exact this
theorem ww {T : Th} (h : (dV T).1 = 0) : zM T := by
 unfold dV at h
 split at h
 · cases h
 rename_i h1
 simp only [vn] at h
 obtain ⟨h2, h3, h4, h5, h6⟩ := h
 obtain ⟨f1, f2⟩ := pR h2
 obtain ⟨r1, r2⟩ := lG h3
 obtain ⟨b1, b2⟩ := om h5
 refine ⟨by omega, by omega, f1, f2, r1, r2, ?_, b1, b2, ?_⟩
 · unfold gX at h4
   split at h4
   · cases h4
   · omega
 · intro hc
   unfold bP at h6
   rw [if_pos hc] at h6
   cases h6
def zR (m : Nat) : Nat → List (List Int) → List Int
 | _, [] => []
 | i, l :: r => (if m = i then l else if (m : Int) ∈ l then [(i : Int)] else []) ++ zR m (i + 1) r
def zX (F : List (List Int)) : Nat → List (List Int)
 | 0 => []
 | k + 1 => zX F k ++ [tS k (F.getD k [])]
theorem bS {F : List (List Int)} {z : Int} {l : List Int} (h : F[z.toNat]? = some l) : row F z = l := by unfold row; rw [List.getD_eq_getElem?_getD, h]; rfl
def B0 {α : Type} (zs : List Int) : Er (α × Nat) → Prop
 | .ok x => x.2 ≤ zs.length
 | .error (e, p) => e ≠ 0 ∧ 0 ≤ p ∧ p ≤ zs.length
section
variable {zs : List Int}
end
end Go.Proofs.YtmlhcncagdfjfaaGreat
