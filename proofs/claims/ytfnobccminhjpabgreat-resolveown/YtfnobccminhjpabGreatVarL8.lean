/- A rule's variables are variables, and not many. -/
import Derived.Test.YtfnobccminhjpabGreatVars8
namespace Go.Proofs.YtfnobccminhjpabGreat

def AllVar (v : Scope) : Prop := ∀ s ∈ v.names, isVarB s = true
theorem AllVar.nil : AllVar [] := fun s h => by cases h
theorem AllVar.stand {v : Scope} {s : Bytes} (h : AllVar v) (hs : isVarB s = true) : AllVar (standM v s) := by
  unfold standM
  split
  · exact h
  · intro t ht
    unfold Scope.names at ht
    rw [List.map_append, List.mem_append] at ht
    rcases ht with ht | ht
    · exact h t ht
    · simp at ht; subst ht; exact hs
theorem AllVar.bindS {v : Scope} {s : Bytes} {k : Int} (h : AllVar v) (hs : isVarB s = true) : AllVar (bindS v s k) := by
  unfold Go.Proofs.YtfnobccminhjpabGreat.bindS
  split
  · intro t ht
    unfold Scope.names at ht
    obtain ⟨x, hx, rfl⟩ := List.mem_map.1 ht
    rcases List.mem_or_eq_of_mem_set hx with hx | rfl
    · exact h.stand hs _ (List.mem_map.2 ⟨x, hx, rfl⟩)
    · exact hs
  · exact h.stand hs
theorem AllVar.bindM {v v' : Scope} {s : Bytes} {k : Int} (h : AllVar v) (hs : isVarB s = true) (hb : bindM v s k = .ok v') : AllVar v' := by
  unfold Go.Proofs.YtfnobccminhjpabGreat.bindM at hb
  obtain ⟨_, _, h2⟩ := ex_ok hb
  rw [← ok_inj h2]
  exact h.bindS hs
theorem AllVar.argsM {C : Ctx} : ∀ (l k : List Bytes) (v : Scope) (ms : List Nat) (x : Scope × List Nat), AllVar v → argsM C v ms l k = .ok x → AllVar x.1 := by
  intro l
  induction l with
  | nil => intro k v ms x hv h; unfold Go.Proofs.YtfnobccminhjpabGreat.argsM at h; rw [← ok_inj h]; exact hv
  | cons s r ih =>
    intro k v ms x hv h
    cases k with
    | nil => unfold Go.Proofs.YtfnobccminhjpabGreat.argsM at h; rw [← ok_inj h]; exact hv
    | cons k q =>
      unfold Go.Proofs.YtfnobccminhjpabGreat.argsM at h
      by_cases hvs : isVarB s = true
      · rw [if_pos hvs] at h
        obtain ⟨v2, h1, h2⟩ := ex_ok h
        exact ih q v2 ms x (hv.bindM hvs h1) h2
      · rw [if_neg hvs] at h
        obtain ⟨m, _, h2⟩ := ex_ok h
        obtain ⟨_, _, h3⟩ := ex_ok h2
        exact ih q v _ x hv h3
theorem AllVar.argumentsM {C : Ctx} {v : Scope} {p : PredM} {l : List Bytes} {x : Scope × List Nat} (hv : AllVar v) (h : argumentsM C v p l = .ok x) : AllVar x.1 := by
  unfold Go.Proofs.YtfnobccminhjpabGreat.argumentsM at h
  obtain ⟨_, h1, h2⟩ := ex_ok h
  exact AllVar.argsM _ _ _ _ _ hv h2
theorem AllVar.literalM {C : Ctx} {v : Scope} {l : LitM} {x : Scope × List Nat} (hv : AllVar v) (h : literalM C v l = .ok x) : AllVar x.1 := by
  unfold Go.Proofs.YtfnobccminhjpabGreat.literalM at h
  obtain ⟨p, hp1, h⟩ := ex_ok h
  obtain ⟨_, _, h⟩ := ex_ok h
  obtain ⟨y, hy, h⟩ := ex_ok h
  obtain ⟨_, _, h⟩ := ex_ok h
  obtain ⟨_, _, h⟩ := ex_ok h
  obtain ⟨_, _, h⟩ := ex_ok h
  rw [← ok_inj h]
  exact hv.argumentsM hy
theorem AllVar.termM {C : Ctx} {v v' : Scope} {t : TermM} (hv : AllVar v) (h : termM C v t = .ok v') : AllVar v' := by
  unfold Go.Proofs.YtfnobccminhjpabGreat.termM at h
  by_cases ht : t.pred = []
  · rw [if_pos ht] at h
    obtain ⟨_, _, h⟩ := ex_ok h
    obtain ⟨_, _, h⟩ := ex_ok h
    rw [← ok_inj h]; exact hv
  · rw [if_neg ht] at h
    obtain ⟨p, hp1, h⟩ := ex_ok h
    obtain ⟨_, _, h⟩ := ex_ok h
    obtain ⟨_, _, h⟩ := ex_ok h
    obtain ⟨y, hy, h⟩ := ex_ok h
    rw [← ok_inj h]
    exact hv.argumentsM hy
theorem AllVar.termsM {C : Ctx} : ∀ (l : List TermM) (v v' : Scope), AllVar v → termsM C v l = .ok v' → AllVar v' := by
  intro l
  induction l with
  | nil => intro v v' hv h; unfold Go.Proofs.YtfnobccminhjpabGreat.termsM at h; rw [← ok_inj h]; exact hv
  | cons t r ih =>
    intro v v' hv h
    unfold Go.Proofs.YtfnobccminhjpabGreat.termsM at h
    obtain ⟨v2, h1, h2⟩ := ex_ok h
    exact ih _ _ (hv.termM h1) h2
theorem AllVar.unlikeM {C : Ctx} {v v' : Scope} {s : Bytes} (hv : AllVar v) (h : unlikeM C v s = .ok v') : AllVar v' := by
  unfold Go.Proofs.YtfnobccminhjpabGreat.unlikeM at h
  by_cases hs : isVarB s = true
  · rw [if_pos hs] at h; rw [← ok_inj h]; exact hv.stand hs
  · rw [if_neg hs] at h
    obtain ⟨_, _, h⟩ := ex_ok h
    rw [← ok_inj h]; exact hv
theorem AllVar.premM {C : Ctx} {v v' : Scope} {q : PremM} (hv : AllVar v) (h : premM C v q = .ok v') : AllVar v' := by
  unfold Go.Proofs.YtfnobccminhjpabGreat.premM at h
  by_cases h1 : q.kind = 1
  · rw [if_pos h1] at h
    obtain ⟨x, hx, h⟩ := ex_ok h
    rw [← ok_inj h]; exact hv.literalM hx
  · rw [if_neg h1] at h
    by_cases h2 : q.kind = 2
    · rw [if_pos h2] at h
      unfold guardM at h
      obtain ⟨_, _, h⟩ := ex_ok h
      obtain ⟨_, h1, h⟩ := ex_ok h
      obtain ⟨v2, h2, h⟩ := ex_ok h
      exact AllVar.termsM _ _ _ (AllVar.termsM _ _ _ hv h2) h
    · rw [if_neg h2] at h
      by_cases h3 : q.kind = 3
      · rw [if_pos h3] at h
        obtain ⟨v2, hx, h⟩ := ex_ok h
        exact (hv.unlikeM hx).unlikeM h
      · rw [if_neg h3] at h; cases h
theorem AllVar.bodyM {C : Ctx} : ∀ (l : List PremM) (v v' : Scope), AllVar v → bodyM C v l = .ok v' → AllVar v' := by
  intro l
  induction l with
  | nil => intro v v' hv h; unfold Go.Proofs.YtfnobccminhjpabGreat.bodyM at h; rw [← ok_inj h]; exact hv
  | cons t r ih =>
    intro v v' hv h
    unfold Go.Proofs.YtfnobccminhjpabGreat.bodyM at h
    obtain ⟨v2, h1, h2⟩ := ex_ok h
    exact ih _ _ (hv.premM h1) h2
theorem parts_fit {C : Ctx} {t : RuleM} {v : Scope} (hp : ∀ p ∈ C.preds, p.kinds.length ≤ 4) (hb : t.body.length ≤ 16) (h : partsM C t = .ok v) : v.length ≤ 1028 ∧ AllVar v := by
  unfold partsM at h
  obtain ⟨v2, h1, h⟩ := ex_ok h
  obtain ⟨x, h2, h⟩ := ex_ok h
  rw [← ok_inj h]
  have a := bodyM_len hp h1
  have b := literalM_len hp h2
  simp at a
  exact ⟨by omega, (AllVar.bodyM _ _ _ .nil h1).literalM h2⟩
/-- Of a statute that Check takes. -/
theorem vars_fit {S : StatM} {k : Int} {v : Scope} (hc : (checkM S).1 = 0) (h : varsM S k = .ok v) : v.length ≤ 1028 ∧ AllVar v ∧ 0 ≤ k ∧ ∃ t, S.rules[k.toNat]? = some t ∧ partsM S.ctx t = .ok v := by
  have hsp := items_split.1 (check_ok.1 hc).2
  unfold varsM at h
  obtain ⟨_, h0, h⟩ := ex_ok h
  cases ht : S.rules[k.toNat]? with
  | none => rw [ht] at h; cases h
  | some t =>
    rw [ht] at h
    have hm := List.mem_of_getElem? ht
    obtain ⟨i, hi, e⟩ := List.getElem_of_mem hm
    have h16 : t.body.length ≤ 16 := by
      rw [← e]
      exact ruleM_sixteen (AllOk.at.1 hsp.1.1.2 i _ (List.getElem?_eq_getElem hi))
    have := parts_fit (preds_four hsp.1.1.1.1.1.2) h16 h
    refine ⟨this.1, this.2, ?_, t, rfl, h⟩
    apply Classical.byContradiction
    intro hn
    rw [decide_eq_false hn] at h0
    cases h0
theorem var_short {s : Bytes} (h : isVarB s = true) : s.length ≤ 32 := by
  unfold isVarB speltB at h
  simp only [Bool.and_eq_true, decide_eq_true_eq] at h
  exact h.1.1.2
end Go.Proofs.YtfnobccminhjpabGreat
