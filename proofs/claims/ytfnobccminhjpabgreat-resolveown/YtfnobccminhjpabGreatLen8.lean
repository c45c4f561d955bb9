/- How many variables a rule can have. -/
import Derived.Test.YtfnobccminhjpabGreatTerm8
namespace Go.Proofs.YtfnobccminhjpabGreat

theorem ex_ok {α β : Type} {x : Er α} {f : α → Er β} {b : β} (h : (x >>= f) = .ok b) : ∃ a, x = .ok a ∧ f a = .ok b := by
  cases x with
  | error c => cases h
  | ok a => exact ⟨a, rfl, h⟩
theorem ok_inj {α : Type} {a b : α} (h : (Except.ok a : Er α) = .ok b) : a = b := by injection h
theorem bindM_len {v v' : Scope} {s : Bytes} {k : Int} (h : bindM v s k = .ok v') : v'.length ≤ v.length + 1 := by
  unfold bindM at h
  obtain ⟨_, _, h2⟩ := ex_ok h
  rw [← ok_inj h2]
  exact bind_len _ _ _
theorem argsM_len {C : Ctx} : ∀ (l k : List Bytes) (v : Scope) (ms : List Nat) (x : Scope × List Nat), argsM C v ms l k = .ok x → x.1.length ≤ v.length + l.length := by
  intro l
  induction l with
  | nil => intro k v ms x h; unfold argsM at h; rw [← ok_inj h]; simp
  | cons s r ih =>
    intro k v ms x h
    cases k with
    | nil => unfold argsM at h; rw [← ok_inj h]; simp
    | cons k q =>
      unfold argsM at h
      by_cases hv : isVarB s = true
      · rw [if_pos hv] at h
        obtain ⟨v2, h1, h2⟩ := ex_ok h
        have := ih q v2 ms x h2
        have := bindM_len h1
        simp
        omega
      · rw [if_neg hv] at h
        obtain ⟨m, _, h2⟩ := ex_ok h
        obtain ⟨_, _, h3⟩ := ex_ok h2
        have := ih q v _ x h3
        simp
        omega
theorem argumentsM_len {C : Ctx} {v : Scope} {p : PredM} {l : List Bytes} {x : Scope × List Nat} (h : argumentsM C v p l = .ok x) (h4 : p.kinds.length ≤ 4) : x.1.length ≤ v.length + 4 := by
  unfold argumentsM at h
  obtain ⟨_, h1, h2⟩ := ex_ok h
  have := argsM_len _ _ _ _ _ h2
  have hl : l.length = p.kinds.length := by
    by_cases hh : (l.length : Int) = (p.kinds.length : Int)
    · omega
    · rw [decide_eq_false hh] at h1; cases h1
  omega
theorem literalM_len {C : Ctx} (hp : ∀ p ∈ C.preds, p.kinds.length ≤ 4) {v : Scope} {l : LitM} {x : Scope × List Nat} (h : literalM C v l = .ok x) : x.1.length ≤ v.length + 4 := by
  unfold literalM at h
  obtain ⟨p, hp1, h⟩ := ex_ok h
  obtain ⟨_, _, h⟩ := ex_ok h
  obtain ⟨y, hy, h⟩ := ex_ok h
  obtain ⟨_, _, h⟩ := ex_ok h
  obtain ⟨_, _, h⟩ := ex_ok h
  obtain ⟨_, _, h⟩ := ex_ok h
  rw [← ok_inj h]
  exact argumentsM_len hy (hp p (findPredM_mem hp1))
theorem termM_len {C : Ctx} (hp : ∀ p ∈ C.preds, p.kinds.length ≤ 4) {v v' : Scope} {t : TermM} (h : termM C v t = .ok v') : v'.length ≤ v.length + 4 := by
  unfold termM at h
  by_cases ht : t.pred = []
  · rw [if_pos ht] at h
    obtain ⟨_, _, h⟩ := ex_ok h
    obtain ⟨_, _, h⟩ := ex_ok h
    rw [← ok_inj h]; omega
  · rw [if_neg ht] at h
    obtain ⟨p, hp1, h⟩ := ex_ok h
    obtain ⟨_, _, h⟩ := ex_ok h
    obtain ⟨_, _, h⟩ := ex_ok h
    obtain ⟨y, hy, h⟩ := ex_ok h
    rw [← ok_inj h]
    exact argumentsM_len hy (hp p (findPredM_mem hp1))
theorem termsM_len {C : Ctx} (hp : ∀ p ∈ C.preds, p.kinds.length ≤ 4) : ∀ (l : List TermM) (v v' : Scope), termsM C v l = .ok v' → v'.length ≤ v.length + 4 * l.length := by
  intro l
  induction l with
  | nil => intro v v' h; unfold termsM at h; rw [← ok_inj h]; simp
  | cons t r ih =>
    intro v v' h
    unfold termsM at h
    obtain ⟨v2, h1, h2⟩ := ex_ok h
    have := ih _ _ h2
    have := termM_len hp h1
    simp
    omega
theorem side_len {l : List TermM} (h : sideB l = true) : 1 ≤ l.length ∧ l.length ≤ 8 := by unfold sideB at h; simpa using h
theorem guardM_len {C : Ctx} (hp : ∀ p ∈ C.preds, p.kinds.length ≤ 4) {v v' : Scope} {g : GuardM} (h : guardM C v g = .ok v') : v'.length ≤ v.length + 64 := by
  unfold guardM at h
  obtain ⟨_, _, h⟩ := ex_ok h
  obtain ⟨_, h1, h⟩ := ex_ok h
  obtain ⟨v2, h2, h⟩ := ex_ok h
  have a := termsM_len hp _ _ _ h2
  have b := termsM_len hp _ _ _ h
  have hs : sideB g.left = true ∧ sideB g.right = true := by
    cases hb : sideB g.left && sideB g.right with
    | false => rw [hb] at h1; cases h1
    | true => simpa using hb
  have := side_len hs.1
  have := side_len hs.2
  omega
theorem unlikeM_len {C : Ctx} {v v' : Scope} {s : Bytes} (h : unlikeM C v s = .ok v') : v'.length ≤ v.length + 1 := by
  unfold unlikeM at h
  by_cases hv : isVarB s = true
  · rw [if_pos hv] at h; rw [← ok_inj h]; exact stand_len _ _
  · rw [if_neg hv] at h
    obtain ⟨_, _, h⟩ := ex_ok h
    rw [← ok_inj h]; omega
theorem premM_len {C : Ctx} (hp : ∀ p ∈ C.preds, p.kinds.length ≤ 4) {v v' : Scope} {q : PremM} (h : premM C v q = .ok v') : v'.length ≤ v.length + 64 := by
  unfold premM at h
  by_cases h1 : q.kind = 1
  · rw [if_pos h1] at h
    obtain ⟨x, hx, h⟩ := ex_ok h
    have := literalM_len hp hx
    rw [← ok_inj h]; omega
  · rw [if_neg h1] at h
    by_cases h2 : q.kind = 2
    · rw [if_pos h2] at h
      exact guardM_len hp h
    · rw [if_neg h2] at h
      by_cases h3 : q.kind = 3
      · rw [if_pos h3] at h
        obtain ⟨v2, hx, h⟩ := ex_ok h
        have := unlikeM_len hx
        have := unlikeM_len h
        omega
      · rw [if_neg h3] at h; cases h
end Go.Proofs.YtfnobccminhjpabGreat
