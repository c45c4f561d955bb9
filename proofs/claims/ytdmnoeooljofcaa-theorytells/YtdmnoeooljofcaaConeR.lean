/- The document's Cone, plain: marks that are set until nothing is new. -/
import Derived.Test.YtdmnoeooljofcaaCnmC
namespace Go.Proofs.Ytdmnoeooljofcaa.Rf
open Cz

/-- How many are not marked. -/
def offC (R : List Bool) : Nat := R.count false
theorem off_set {R : List Bool} {q : Nat} (hq : q < R.length) (h : R.getD q false = false) : offC (R.set q true) + 1 = offC R := by
  unfold offC
  induction R generalizing q with
  | nil => cases hq
  | cons x R ih =>
    cases q with
    | zero =>
      have hx : x = false := h
      subst hx
      simp
    | succ q =>
      have hq' : q < R.length := by simpa using hq
      have h' : R.getD q false = false := by simpa using h
      have := ih hq' h'
      rw [List.set_cons_succ, List.count_cons, List.count_cons]
      omega
/-- What is marked while the sweeps run: all of l, and nothing that is not reached. -/
structure Cr (T : Th) (l : List Int) (n : Nat) (R : List Bool) : Prop where
  ln : R.length = n
  base : ∀ x ∈ l, hit R x = true
  snd : ∀ y, 0 ≤ y → hit R y = true → Rch T l y
section
variable {T : Th} {l : List Int} {n : Nat} {R : List Bool}
/-- Nothing is new: all that is reached is marked. -/
theorem Cr.whole (h : Cr T l n R) (hc : ∀ x y, hit R x = true → Edg T x y → hit R y = true) : ∀ y, Rch T l y → hit R y = true := by
  intro y hy
  induction hy with
  | base hx => exact h.base _ hx
  | step _ he ih => exact hc _ _ ih he
theorem Cr.set (h : Cr T l n R) {q : Nat} (hq : q < n) (hr : Rch T l (q : Int)) (hl : ∀ x ∈ l, 0 ≤ x) : Cr T l n (R.set q true) := by
  have hqb : 0 ≤ (q : Int) ∧ (q : Int) < R.length := ⟨by omega, by rw [h.ln]; omega⟩
  have e : ∀ y, 0 ≤ y → hit (R.set q true) y = (hit R y || decide (y = (q : Int))) := fun y hy => by
    have := hit_set (R := R) (x := (q : Int)) hqb hy
    rwa [Int.toNat_natCast] at this
  refine ⟨by rw [List.length_set]; exact h.ln, fun x hx => ?_, fun y h0 hy => ?_⟩
  · rw [e x (hl x hx), h.base x hx]; rfl
  · rw [e y h0, Bool.or_eq_true] at hy
    rcases hy with hy | hy
    · exact h.snd y h0 hy
    · rw [of_decide_eq_true hy]; exact hr
/-- Two tables that mark the same are one. -/
theorem hit_same {R S : List Bool} (hl : R.length = S.length) (h : ∀ y, 0 ≤ y → (hit R y = true ↔ hit S y = true)) : R = S := by
  apply List.ext_getElem hl
  intro i h1 h2
  have := h (i : Int) (by omega)
  unfold hit at this
  rw [Int.toNat_natCast, List.getD_eq_getElem?_getD, List.getD_eq_getElem?_getD, List.getElem?_eq_getElem h1, List.getElem?_eq_getElem h2] at this
  simp only [Option.getD_some] at this
  cases a : R[i] <;> cases b : S[i] <;> simp_all
end
/-- The foes of the literals below q are marked where these are. -/
def CloF (T : Th) (R : List Bool) (q : Nat) : Prop := ∀ x : Nat, x < q → ∀ y ∈ row T.foes (x : Int), hit R (x : Int) = true → hit R y = true
/-- So are the heads of the rules below i. -/
def CloR (T : Th) (R : List Bool) (i : Nat) : Prop := ∀ j r, j < i → T.rules[j]? = some r → ∀ x ∈ r.body, hit R x = true → hit R r.head = true
section
variable {T : Th} {l : List Int} {n : Nat} {R : List Bool}
theorem hit_in {x : Int} (h : hit R x = true) : x.toNat < R.length := by
  apply Classical.byContradiction
  intro hn
  have h : R.getD x.toNat false = true := h
  rw [List.getD_eq_getElem?_getD, List.getElem?_eq_none (by omega)] at h
  cases h
theorem Cr.closed (h : Cr T l n R) (hF : CloF T R n) (hR : CloR T R T.rules.length) : ∀ x y, hit R x = true → Edg T x y → hit R y = true := by
  intro x y hx he
  rcases he with he | ⟨r, hr, hb, rfl⟩
  · have hl := hit_in hx
    rw [h.ln] at hl
    refine hF x.toNat hl y ?_ ?_
    · unfold row at he ⊢
      rw [Int.toNat_natCast]
      exact he
    · unfold hit at hx ⊢
      rw [Int.toNat_natCast]
      exact hx
  · obtain ⟨j, hj⟩ := List.mem_iff_getElem?.1 hr
    exact hR j r (List.getElem?_eq_some_iff.1 hj).1 hj x hb hx
/-- After a sweep with nothing new the marks are what is reached. -/
theorem Cr.done (h : Cr T l n R) (hF : CloF T R n) (hR : CloR T R T.rules.length) : ∀ y, 0 ≤ y → (hit R y = true ↔ Rch T l y) :=
  fun y hy => ⟨h.snd y hy, h.whole (h.closed hF hR) y⟩
theorem CloF.next {q : Nat} (h : CloF T R q) (hq : ∀ y ∈ row T.foes (q : Int), hit R (q : Int) = true → hit R y = true) : CloF T R (q + 1) := by
  intro x hx y hy hh
  by_cases e : x = q
  · subst e; exact hq y hy hh
  · exact h x (by omega) y hy hh
theorem CloR.next {i : Nat} (h : CloR T R i) {r : RuleM} (hr : T.rules[i]? = some r) (hq : ∀ x ∈ r.body, hit R x = true → hit R r.head = true) : CloR T R (i + 1) := by
  intro j s hj hs x hx hh
  by_cases e : j = i
  · subst e
    rw [hr] at hs
    cases hs
    exact hq x hx hh
  · exact h j s (by omega) hs x hx hh
/-- What the document's For lists. -/
def forM (T : Th) (q : Int) : Nat → List Int
  | 0 => []
  | k + 1 => forM T q k ++ (if (T.rules[k]?).map RuleM.head = some q then [(k : Int)] else [])
end
end Go.Proofs.Ytdmnoeooljofcaa.Rf
