/- What is known, in memory; has, whole, partly, beats. -/
import Derived.Test.YtcobmbclhhimjaaGreatNvM
import Derived.BigQuiet
namespace Go.Proofs.YtcobmbclhhimjaaGreat
open Go.RowKit

/-- A theory and facts that may be asked. -/
structure Pf (T : Th) (F : List Int) (n : Nat) : Prop where
  ok : OkT T
  ln : T.lits = (n : Int)
  n4 : n ≤ 4096
  foe : ∀ q : Nat, q < n → ∀ f ∈ row T.foes q, 0 ≤ f ∧ f < (n : Int)
  head : ∀ r ∈ T.rules, 0 ≤ r.head ∧ r.head < (n : Int)
  body : ∀ r ∈ T.rules, ∀ x ∈ r.body, 0 ≤ x ∧ x < (n : Int)
  beat : ∀ l ∈ T.beats, l.Pairwise (· < ·)
  fact : ∀ x ∈ F, 0 ≤ x ∧ x < (n : Int)
theorem risesF_in2 {b : Int} : ∀ {l : List Int} {p : Int}, -1 ≤ p → risesF b p l = true → (∀ x ∈ l, p < x ∧ x < b) ∧ l.Pairwise (· < ·)
  | [], _, _, _ => ⟨fun x hx => (by cases hx), List.Pairwise.nil⟩
  | y :: l, p, hp, h => by
    unfold risesF at h
    split at h
    · cases h
    · rename_i hn
      obtain ⟨h1, h2⟩ := risesF_in2 (p := y) (by omega) h
      refine ⟨fun x hx => ?_, List.pairwise_cons.2 ⟨fun x hx => (h1 x hx).1, h2⟩⟩
      rcases List.mem_cons.1 hx with rfl | hx
      · omega
      · have := h1 x hx; omega
theorem pf_of {T : Th} {F : List Int} (h : faultM T F = 0) : Pf T F T.lits.toNat := by
  unfold faultM at h
  by_cases hc : (checkM T).1 ≠ 0
  · rw [if_pos hc] at h; exact absurd h hc
  · rw [if_neg hc] at h
    have hok := check_ok (Classical.not_not.1 hc)
    have h0 := hok.l0
    have h1 := hok.l1
    have hfl := hok.fl
    have hr : risesM F T.lits = true := by
      cases e : risesM F T.lits with
      | true => rfl
      | false => rw [e] at h; cases h
    obtain ⟨f1, f2⟩ := risesF_in2 (by omega) hr
    refine ⟨hok, by omega, by omega, fun q hq f hf => ?_, fun r hr => ?_, fun r hr x hx => ?_, fun l hl => ?_, fun x hx => ?_⟩
    · obtain ⟨l, hl⟩ := get_at (l := T.foes) (i := q) (by omega)
      rw [row_at (by rw [Int.toNat_natCast]; exact hl)] at hf
      have := (risesF_in2 (by omega) (hok.foe q l hl).2.1).1 f hf
      omega
    · have := hok.rule r hr
      exact ⟨this.2.2.1, by have := this.2.2.2.1; omega⟩
    · have := (risesF_in2 (by omega) (hok.rule r hr).2.2.2.2.2).1 x hx
      omega
    · obtain ⟨i, hi⟩ := List.mem_iff_getElem?.1 hl
      exact (risesF_in2 (by omega) (hok.beat i l hi).1).2
    · have := f1 x hx
      omega
def u8s (l : List Int) : List Value := l.map (Value.int .u8)
theorem u8s_at {l : List Int} {i : Nat} (hi : i < l.length) : (u8s l)[i]? = some (.int .u8 (l.getD i 0)) := by
  unfold u8s
  rw [List.getElem?_map, List.getElem?_eq_getElem hi]
  simp [List.getD, hi]
def isTag (t : Int) : Prop := t = 1 ∨ t = 2 ∨ t = 3 ∨ t = 4
end Go.Proofs.YtcobmbclhhimjaaGreat
