/- A rule's variables as the page keeps them, beside a scope: plain mathematics. -/
import Derived.Test.YtfnobccminhjpaaGreatOpenZ9
import Derived.Test.YtfnobccminhjpaaGreatLit8
namespace Go.Proofs.YtfnobccminhjpaaGreat

theorem posB_lt' {l : List Bytes} {s : Bytes} (h : s ∈ l) : posB l s < l.length := by unfold posB; rw [if_pos h]; exact List.idxOf_lt_length_iff.2 h
theorem posB_at' {l : List Bytes} {s : Bytes} (h : s ∈ l) : l[posB l s]? = some s := by
  have hl := posB_lt' h
  rw [List.getElem?_eq_getElem hl]
  unfold posB at hl ⊢
  simp only [if_pos h] at hl ⊢
  exact congrArg some (List.getElem_idxOf hl)
theorem posB_inj' {l : List Bytes} {s t : Bytes} (hs : s ∈ l) (ht : t ∈ l) (h : posB l s = posB l t) : s = t := by
  have h1 := posB_at' hs
  rw [h, posB_at' ht] at h1
  exact (Option.some.inj h1).symm
theorem posB_app {l m : List Bytes} {s : Bytes} (h : s ∈ l) : posB (l ++ m) s = posB l s := by
  unfold posB
  rw [if_pos h, if_pos (List.mem_append.2 (.inl h)), List.idxOf_append, if_pos h]
theorem posB_new {l : List Bytes} {s : Bytes} (h : s ∉ l) : posB (l ++ [s]) s = l.length := by
  unfold posB
  rw [if_pos (List.mem_append.2 (.inr (by simp))), List.idxOf_append, if_neg h]
  simp
theorem names_app (v : Scope) (s : Bytes) (k : Int) : Scope.names (v ++ [(s, k)]) = v.names ++ [s] := by unfold Scope.names; simp
theorem kinds_app (v : Scope) (s : Bytes) (k : Int) : Scope.kinds (v ++ [(s, k)]) = v.kinds ++ [k] := by unfold Scope.kinds; simp
theorem lens_nk (v : Scope) : v.kinds.length = v.names.length := by unfold Scope.kinds Scope.names; simp
theorem getD_app_left {α : Type} {l m : List α} {i : Nat} {d : α} (h : i < l.length) : (l ++ m).getD i d = l.getD i d := by
  rw [List.getD_eq_getElem?_getD, List.getD_eq_getElem?_getD, List.getElem?_append_left h]
theorem getD_app_new {α : Type} {l : List α} {a d : α} : (l ++ [a]).getD l.length d = a := by
  rw [List.getD_eq_getElem?_getD, List.getElem?_append_right (Nat.le_refl _)]
  simp
theorem kindAt_app {v : Scope} {s x : Bytes} {k : Int} (hx : x ∈ v.names) : kindAt (v ++ [(s, k)]) x = kindAt v x := by
  unfold kindAt
  rw [names_app, kinds_app, posB_app hx, getD_app_left (by rw [lens_nk]; exact posB_lt' hx)]
theorem kindAt_new {v : Scope} {s : Bytes} {k : Int} (hs : s ∉ v.names) : kindAt (v ++ [(s, k)]) s = k := by
  unfold kindAt
  rw [names_app, kinds_app, posB_new hs, ← lens_nk]
  exact getD_app_new
theorem names_set {v : Scope} {s : Bytes} {k : Int} (hs : s ∈ v.names) : Scope.names (v.set (posB v.names s) (s, k)) = v.names := by
  have h1 := posB_at' hs
  have h2 := posB_lt' hs
  generalize posB v.names s = p at *
  unfold Scope.names at *
  rw [List.map_set]
  apply List.ext_getElem?
  intro j
  rw [List.getElem?_set]
  by_cases e : p = j
  · subst e
    rw [if_pos rfl, if_pos h2, h1]
  · rw [if_neg e]
theorem kindAt_set {v : Scope} {s x : Bytes} {k : Int} (hs : s ∈ v.names) (hx : x ∈ v.names) : kindAt (v.set (posB v.names s) (s, k)) x = if x = s then k else kindAt v x := by
  have h2 := posB_lt' hs
  unfold kindAt
  rw [names_set hs]
  have hk : Scope.kinds (v.set (posB v.names s) (s, k)) = v.kinds.set (posB v.names s) k := by unfold Scope.kinds; rw [List.map_set]
  rw [hk, List.getD_eq_getElem?_getD, List.getElem?_set]
  by_cases e : x = s
  · subst e
    rw [if_pos rfl, if_pos rfl, if_pos (by rw [lens_nk]; exact h2)]
    rfl
  · rw [if_neg e, if_neg (fun h => e (posB_inj' hx hs h.symm)), List.getD_eq_getElem?_getD]
/-- What the page's book holds of a scope. -/
structure Sim (v : Scope) (N : List Bytes) (Ks : List Int) (L : List Bytes) : Prop where
  nod : v.names.Nodup
  len : Ks.length = N.length
  inn : ∀ x, x ∈ N → x ∈ v.names ∧ kindAt v x = Ks.getD (posB N x) 0 ∧ kindAt v x ≠ -1
  out : ∀ x, x ∈ v.names → x ∉ N → kindAt v x = -1 ∧ x ∈ L
  loo : ∀ x, x ∈ L → x ∈ v.names
theorem Sim.nil : Sim [] [] [] [] := ⟨List.nodup_nil, rfl, fun x h => by simp at h, fun x h => by simp [Scope.names] at h, fun x h => by simp at h⟩
section
variable {v : Scope} {N : List Bytes} {Ks : List Int} {L : List Bytes} {s : Bytes} {k : Int}
theorem nod_app (h : v.names.Nodup) (hs : s ∉ v.names) (c : Int) : (Scope.names (v ++ [(s, c)])).Nodup := by
  rw [names_app, List.nodup_append]
  refine ⟨h, by simp, fun a ha b hb e => ?_⟩
  simp at hb
  subst hb
  subst e
  exact hs ha
theorem Sim.bind_new (h : Sim v N Ks L) (hs : s ∉ N) (hk : k ≠ -1) : ∃ v', bindM v s k = .ok v' ∧ Sim v' (N ++ [s]) (Ks ++ [k]) L := by
  have key : ∀ v1 : Scope, v1.names.Nodup → s ∈ v1.names → kindAt v1 s = -1 → (∀ x, x ≠ s → (x ∈ v1.names ↔ x ∈ v.names)) → (∀ x, x ≠ s → x ∈ v.names → kindAt v1 x = kindAt v x) → standM v s = v1 → ∃ v', bindM v s k = .ok v' ∧ Sim v' (N ++ [s]) (Ks ++ [k]) L := by
    intro v1 hn1 hm hkk hnm hkd hst
    have hb : bindS v s k = v1.set (posB v1.names s) (s, k) := by unfold bindS; rw [hst, if_pos hkk]
    refine ⟨bindS v s k, ?_, ?_⟩
    · unfold bindM
      rw [hb, kindAt_set hm hm, if_pos rfl, want_t (decide_eq_true rfl)]
      rfl
    · rw [hb]
      refine ⟨by rw [names_set hm]; exact hn1, by simp [h.len], fun x hx => ?_, fun x hx hxn => ?_, fun x hx => ?_⟩
      · rw [names_set hm]
        by_cases e : x = s
        · subst e
          refine ⟨hm, ?_, ?_⟩
          · rw [kindAt_set hm hm, if_pos rfl, posB_new hs, ← h.len]
            exact getD_app_new.symm
          · rw [kindAt_set hm hm, if_pos rfl]; exact hk
        · have hxN : x ∈ N := by
            rcases List.mem_append.1 hx with h1 | h1
            · exact h1
            · simp at h1; exact absurd h1 e
          obtain ⟨i1, i2, i3⟩ := h.inn x hxN
          have hx1 := (hnm x e).2 i1
          refine ⟨hx1, ?_, ?_⟩
          · rw [kindAt_set hm hx1, if_neg e, hkd x e i1, posB_app hxN, getD_app_left (by rw [h.len]; exact posB_lt' hxN)]
            exact i2
          · rw [kindAt_set hm hx1, if_neg e, hkd x e i1]
            exact i3
      · rw [names_set hm] at hx
        have e : x ≠ s := fun e => hxn (by rw [e]; simp)
        have hxv := (hnm x e).1 hx
        obtain ⟨o1, o2⟩ := h.out x hxv (fun hh => hxn (List.mem_append.2 (.inl hh)))
        exact ⟨by rw [kindAt_set hm hx, if_neg e, hkd x e hxv]; exact o1, o2⟩
      · rw [names_set hm]
        by_cases e : x = s
        · subst e; exact hm
        · exact (hnm x e).2 (h.loo x hx)
  by_cases hm : s ∈ v.names
  · exact key v h.nod hm (h.out s hm hs).1 (fun _ _ => Iff.rfl) (fun _ _ _ => rfl) (by unfold standM; rw [if_pos hm])
  · refine key (v ++ [(s, -1)]) (nod_app h.nod hm _) (by rw [names_app]; simp) (kindAt_new hm) (fun x e => ?_) (fun x e hx => kindAt_app hx) (by unfold standM; rw [if_neg hm])
    rw [names_app]
    simp [e]
theorem Sim.bind_same (h : Sim v N Ks L) (hs : s ∈ N) (hk : Ks.getD (posB N s) 0 = k) : bindM v s k = .ok v := by
  obtain ⟨i1, i2, i3⟩ := h.inn s hs
  have hst : standM v s = v := by unfold standM; rw [if_pos i1]
  have hb : bindS v s k = v := by unfold bindS; rw [hst, if_neg i3]
  unfold bindM
  rw [hb, i2, hk, want_t (decide_eq_true rfl)]
  rfl
theorem Sim.bind_not (h : Sim v N Ks L) (hs : s ∈ N) (hk : ¬ Ks.getD (posB N s) 0 = k) : bindM v s k = .error 81 := by
  obtain ⟨i1, i2, i3⟩ := h.inn s hs
  have hst : standM v s = v := by unfold standM; rw [if_pos i1]
  have hb : bindS v s k = v := by unfold bindS; rw [hst, if_neg i3]
  unfold bindM
  rw [hb, i2, want_f (decide_eq_false hk)]
  rfl
theorem Sim.stand (h : Sim v N Ks L) : Sim (standM v s) N Ks (L ++ [s]) := by
  unfold standM
  by_cases hm : s ∈ v.names
  · rw [if_pos hm]
    refine ⟨h.nod, h.len, h.inn, fun x hx hn => ⟨(h.out x hx hn).1, List.mem_append.2 (.inl (h.out x hx hn).2)⟩, fun x hx => ?_⟩
    rcases List.mem_append.1 hx with h1 | h1
    · exact h.loo x h1
    · simp at h1; subst h1; exact hm
  · rw [if_neg hm]
    refine ⟨nod_app h.nod hm _, h.len, fun x hx => ?_, fun x hx hn => ?_, fun x hx => ?_⟩
    · obtain ⟨i1, i2, i3⟩ := h.inn x hx
      refine ⟨by rw [names_app]; exact List.mem_append.2 (.inl i1), by rw [kindAt_app i1]; exact i2, by rw [kindAt_app i1]; exact i3⟩
    · rw [names_app] at hx
      by_cases e : x = s
      · subst e
        exact ⟨kindAt_new hm, List.mem_append.2 (.inr (by simp))⟩
      · have hxv : x ∈ v.names := by
          rcases List.mem_append.1 hx with h1 | h1
          · exact h1
          · simp at h1; exact absurd h1 e
        exact ⟨by rw [kindAt_app hxv]; exact (h.out x hxv hn).1, List.mem_append.2 (.inl (h.out x hxv hn).2)⟩
    · rw [names_app]
      rcases List.mem_append.1 hx with h1 | h1
      · exact List.mem_append.2 (.inl (h.loo x h1))
      · exact List.mem_append.2 (.inr h1)
theorem Sim.free (h : Sim v N Ks L) : ((-1 : Int) ∈ v.kinds) ↔ ∃ x ∈ L, x ∉ N := by
  constructor
  · intro hk
    obtain ⟨i, hi⟩ := List.mem_iff_getElem?.1 hk
    have hil : i < v.kinds.length := (List.getElem?_eq_some_iff.1 hi).1
    have hil2 : i < v.names.length := by rw [← lens_nk]; exact hil
    have hx : v.names[i] ∈ v.names := List.getElem_mem hil2
    have hp : posB v.names v.names[i] = i := by
      have h1 := posB_at' hx
      have h2 := posB_lt' hx
      exact (List.getElem?_inj h2 h.nod).1 (h1.trans (List.getElem?_eq_getElem hil2).symm)
    have hka : kindAt v v.names[i] = -1 := by
      unfold kindAt
      rw [hp, List.getD_eq_getElem?_getD, hi]
      rfl
    have hn : v.names[i] ∉ N := fun hh => (h.inn _ hh).2.2 hka
    exact ⟨_, (h.out _ hx hn).2, hn⟩
  · rintro ⟨x, hx, hn⟩
    have hxv := h.loo x hx
    have hka := (h.out x hxv hn).1
    unfold kindAt at hka
    have hl : posB v.names x < v.kinds.length := by rw [lens_nk]; exact posB_lt' hxv
    rw [List.getD_eq_getElem?_getD, List.getElem?_eq_getElem hl] at hka
    simp at hka
    rw [← hka]
    exact List.getElem_mem hl
end
theorem name_not_var {s : Bytes} (h : isNameB s = true) : isVarB s = false := by
  unfold isNameB speltB at h
  unfold isVarB speltB
  have h1 : smallB (s.getD 0 0) = true := by
    cases hb : smallB (s.getD 0 0) with
    | true => rfl
    | false => rw [hb] at h; simp at h
  have h2 : capB (s.getD 0 0) = false := by
    unfold smallB at h1
    unfold capB
    have h3 := of_decide_eq_true h1
    exact decide_eq_false (by omega)
  rw [h2]
  simp
end Go.Proofs.YtfnobccminhjpaaGreat
/- A rule's variables, by the page: those that are seen, each once, in their order; plain mathematics. -/
namespace Go.Proofs.YtfnobccminhjpaaGreat

/-- A variable more, if it is one and new. -/
def addN (l : List Bytes) (s : Bytes) : List Bytes := if isVarB s = true ∧ s ∉ l then l ++ [s] else l
def seenP (p : PremM) : List Bytes := if p.kind = 1 then p.lit.args else if p.kind = 2 then p.guard.left.flatMap (·.args) ++ p.guard.right.flatMap (·.args) else [p.a, p.b]
def seenM (t : RuleM) : List Bytes := t.body.flatMap seenP ++ t.head.args
theorem namesN_set {v : Scope} {p : Nat} {s : Bytes} {k : Int} (h : v.names[p]? = some s) : Scope.names (v.set p (s, k)) = v.names := by
  unfold Scope.names at h ⊢
  rw [List.map_set]
  obtain ⟨hl, e⟩ := List.getElem?_eq_some_iff.1 h
  show (v.map (·.1)).set p s = v.map (·.1)
  rw [← e]
  exact List.set_getElem_self _
theorem stand_N {v : Scope} {s : Bytes} (hv : isVarB s = true) : (standM v s).names = addN v.names s := by
  unfold addN
  by_cases h : s ∈ v.names
  · rw [stand_in h, if_neg (by simp [h])]
  · rw [stand_new h, if_pos ⟨hv, h⟩, names_app]
theorem standN_mem {v : Scope} {s : Bytes} : s ∈ (standM v s).names := by
  by_cases h : s ∈ v.names
  · rw [stand_in h]; exact h
  · rw [stand_new h, names_app]; simp
theorem bind_N {v : Scope} {s : Bytes} {k : Int} (hv : isVarB s = true) : (bindS v s k).names = addN v.names s := by
  rw [← stand_N hv]
  unfold bindS
  split
  · refine namesN_set ?_
    have hm := standN_mem (v := v) (s := s)
    unfold posB
    rw [if_pos hm]
    rw [List.getElem?_eq_getElem (List.idxOf_lt_length_of_mem hm), List.getElem_idxOf]
  · rfl
theorem addN_not {l : List Bytes} {s : Bytes} (hv : ¬ isVarB s = true) : addN l s = l := by unfold addN; rw [if_neg (by simp [hv])]
theorem argsM_N {C : Ctx} : ∀ (l k : List Bytes) (v : Scope) (ms : List Nat) (x : Scope × List Nat), l.length = k.length → argsM C v ms l k = .ok x → x.1.names = l.foldl addN v.names := by
  intro l
  induction l with
  | nil => intro k v ms x _ h; unfold argsM at h; rw [← ok_inj h]; rfl
  | cons s r ih =>
    intro k v ms x hl h
    cases k with
    | nil => cases hl
    | cons k q =>
      unfold argsM at h
      have hl2 : r.length = q.length := by simpa using hl
      by_cases hv : isVarB s = true
      · rw [if_pos hv] at h
        obtain ⟨v2, h1, h2⟩ := ex_ok h
        unfold bindM at h1
        obtain ⟨_, _, h3⟩ := ex_ok h1
        rw [ih q v2 ms x hl2 h2, ← ok_inj h3, bind_N hv]
        rfl
      · rw [if_neg hv] at h
        obtain ⟨m, _, h2⟩ := ex_ok h
        obtain ⟨_, _, h3⟩ := ex_ok h2
        rw [ih q v _ x hl2 h3, List.foldl_cons, addN_not hv]
theorem argumentsM_N {C : Ctx} {v : Scope} {p : PredM} {l : List Bytes} {x : Scope × List Nat} (h : argumentsM C v p l = .ok x) : x.1.names = l.foldl addN v.names ∧ l.length = p.kinds.length := by
  unfold argumentsM at h
  obtain ⟨_, h1, h2⟩ := ex_ok h
  have hl : l.length = p.kinds.length := by
    by_cases hh : (l.length : Int) = (p.kinds.length : Int)
    · omega
    · rw [decide_eq_false hh] at h1; cases h1
  exact ⟨argsM_N _ _ _ _ _ hl h2, hl⟩
theorem unlikeM_N {C : Ctx} {v v' : Scope} {s : Bytes} (h : unlikeM C v s = .ok v') : v'.names = addN v.names s := by
  unfold unlikeM at h
  by_cases hv : isVarB s = true
  · rw [if_pos hv] at h
    rw [← ok_inj h, stand_N hv]
  · rw [if_neg hv] at h
    obtain ⟨_, _, h⟩ := ex_ok h
    rw [← ok_inj h, addN_not hv]
section
variable {C : Ctx} (hp : ∀ p ∈ C.preds, p.kinds.length ≤ 4)
include hp
theorem literalM_N {v : Scope} {l : LitM} {x : Scope × List Nat} (h : literalM C v l = .ok x) : x.1.names = l.args.foldl addN v.names ∧ l.args.length ≤ 4 := by
  unfold literalM at h
  obtain ⟨p, hp1, h⟩ := ex_ok h
  obtain ⟨_, _, h⟩ := ex_ok h
  obtain ⟨y, hy, h⟩ := ex_ok h
  obtain ⟨_, _, h⟩ := ex_ok h
  obtain ⟨_, _, h⟩ := ex_ok h
  obtain ⟨_, _, h⟩ := ex_ok h
  rw [← ok_inj h]
  obtain ⟨h1, h2⟩ := argumentsM_N hy
  have := hp p (findPredM_mem hp1)
  exact ⟨h1, by omega⟩
theorem termM_N {v v' : Scope} {t : TermM} (h : termM C v t = .ok v') : v'.names = t.args.foldl addN v.names ∧ t.args.length ≤ 4 := by
  unfold termM at h
  by_cases ht : t.pred = []
  · rw [if_pos ht] at h
    obtain ⟨_, h1, h⟩ := ex_ok h
    obtain ⟨_, _, h⟩ := ex_ok h
    rw [← ok_inj h]
    have h2 : (decide (t.coef = 0) && decide ((t.args.length : Int) = 0)) = true := by
      cases hb : (decide (t.coef = 0) && decide ((t.args.length : Int) = 0)) with
      | true => rfl
      | false => rw [hb] at h1; cases h1
    simp only [Bool.and_eq_true, decide_eq_true_eq] at h2
    have h3 : t.args = [] := List.eq_nil_of_length_eq_zero (by omega)
    rw [h3]
    exact ⟨rfl, by simp⟩
  · rw [if_neg ht] at h
    obtain ⟨p, hp1, h⟩ := ex_ok h
    obtain ⟨_, _, h⟩ := ex_ok h
    obtain ⟨_, _, h⟩ := ex_ok h
    obtain ⟨y, hy, h⟩ := ex_ok h
    rw [← ok_inj h]
    obtain ⟨h1, h2⟩ := argumentsM_N hy
    have := hp p (findPredM_mem hp1)
    exact ⟨h1, by omega⟩
theorem termsM_N : ∀ {l : List TermM} {v v' : Scope}, termsM C v l = .ok v' → v'.names = (l.flatMap (·.args)).foldl addN v.names ∧ ∀ t ∈ l, t.args.length ≤ 4 := by
  intro l
  induction l with
  | nil => intro v v' h; unfold termsM at h; rw [← ok_inj h]; exact ⟨rfl, by simp⟩
  | cons t r ih =>
    intro v v' h
    unfold termsM at h
    obtain ⟨v2, h1, h2⟩ := ex_ok h
    obtain ⟨e1, l1⟩ := termM_N hp h1
    obtain ⟨e2, l2⟩ := ih h2
    refine ⟨?_, ?_⟩
    · rw [e2, e1, List.flatMap_cons, List.foldl_append]
    · intro x hx
      rcases List.mem_cons.1 hx with e | e
      · rw [e]; exact l1
      · exact l2 x e
/-- How long a premise's lists are. -/
def shortP (p : PremM) : Prop := (p.kind = 1 → p.lit.args.length ≤ 4) ∧ (p.kind = 2 → (p.guard.left.length ≤ 8 ∧ ∀ t ∈ p.guard.left, t.args.length ≤ 4) ∧ p.guard.right.length ≤ 8 ∧ ∀ t ∈ p.guard.right, t.args.length ≤ 4) ∧ (p.kind = 1 ∨ p.kind = 2 ∨ p.kind = 3)
theorem premM_N {v v' : Scope} {p : PremM} (h : premM C v p = .ok v') : v'.names = (seenP p).foldl addN v.names ∧ shortP p := by
  unfold premM at h
  unfold seenP shortP
  by_cases h1 : p.kind = 1
  · rw [if_pos h1] at h
    obtain ⟨x, hx, h⟩ := ex_ok h
    obtain ⟨e, hl⟩ := literalM_N hp hx
    rw [if_pos h1, ← ok_inj h]
    exact ⟨e, fun _ => hl, fun e => by omega, .inl h1⟩
  · rw [if_neg h1] at h ⊢
    by_cases h2 : p.kind = 2
    · rw [if_pos h2] at h ⊢
      unfold guardM at h
      obtain ⟨_, _, h⟩ := ex_ok h
      obtain ⟨_, hs, h⟩ := ex_ok h
      obtain ⟨v2, ha, hb⟩ := ex_ok h
      obtain ⟨e1, l1⟩ := termsM_N hp ha
      obtain ⟨e2, l2⟩ := termsM_N hp hb
      have hs2 : (sideB p.guard.left && sideB p.guard.right) = true := by
        cases hb : (sideB p.guard.left && sideB p.guard.right) with
        | true => rfl
        | false => rw [hb] at hs; cases hs
      unfold sideB at hs2
      simp only [Bool.and_eq_true, decide_eq_true_eq] at hs2
      exact ⟨by rw [e2, e1, List.foldl_append], fun e => by omega, fun _ => ⟨⟨hs2.1.2, l1⟩, hs2.2.2, l2⟩, .inr (.inl h2)⟩
    · rw [if_neg h2] at h ⊢
      by_cases h3 : p.kind = 3
      · rw [if_pos h3] at h
        obtain ⟨v2, ha, hb⟩ := ex_ok h
        exact ⟨by rw [unlikeM_N hb, unlikeM_N ha]; rfl, fun e => by omega, fun e => by omega, .inr (.inr h3)⟩
      · rw [if_neg h3] at h
        cases h
theorem bodyM_N : ∀ {l : List PremM} {v v' : Scope}, bodyM C v l = .ok v' → v'.names = (l.flatMap seenP).foldl addN v.names ∧ ∀ p ∈ l, shortP p := by
  intro l
  induction l with
  | nil => intro v v' h; unfold bodyM at h; rw [← ok_inj h]; exact ⟨rfl, by simp⟩
  | cons p r ih =>
    intro v v' h
    unfold bodyM at h
    obtain ⟨v2, h1, h2⟩ := ex_ok h
    obtain ⟨e1, l1⟩ := premM_N hp h1
    obtain ⟨e2, l2⟩ := ih h2
    refine ⟨?_, ?_⟩
    · rw [e2, e1, List.flatMap_cons, List.foldl_append]
    · intro x hx
      rcases List.mem_cons.1 hx with e | e
      · rw [e]; exact l1
      · exact l2 x e
/-- The program's variables are those that are seen. -/
theorem parts_N {t : RuleM} {v : Scope} (h : partsM C t = .ok v) : v.names = (seenM t).foldl addN [] ∧ (∀ p ∈ t.body, shortP p) ∧ t.head.args.length ≤ 4 := by
  unfold partsM at h
  obtain ⟨v2, h1, h⟩ := ex_ok h
  obtain ⟨x, hx, h⟩ := ex_ok h
  obtain ⟨e1, l1⟩ := bodyM_N hp h1
  obtain ⟨e2, l2⟩ := literalM_N hp hx
  refine ⟨?_, l1, l2⟩
  rw [← ok_inj h, e2, e1]
  unfold seenM
  rw [List.foldl_append]
  rfl
end
theorem short_len {p : PremM} (h : shortP p) : (seenP p).length ≤ 64 := by
  have key : ∀ (l : List TermM), l.length ≤ 8 → (∀ t ∈ l, t.args.length ≤ 4) → (l.flatMap (·.args)).length ≤ 32 := by
    have : ∀ (l : List TermM), (∀ t ∈ l, t.args.length ≤ 4) → (l.flatMap (·.args)).length ≤ 4 * l.length := by
      intro l
      induction l with
      | nil => intro _; simp
      | cons t r ih =>
        intro h
        have h1 := h t (by simp)
        have h2 := ih fun x hx => h x (by simp [hx])
        rw [List.flatMap_cons, List.length_append, List.length_cons]
        omega
    intro l hl h
    have := this l h
    omega
  unfold seenP
  obtain ⟨h1, h2, h3⟩ := h
  split
  · have := h1 ‹_›; omega
  · split
    · obtain ⟨⟨a1, a2⟩, a3, a4⟩ := h2 ‹_›
      have := key _ a1 a2
      have := key _ a3 a4
      rw [List.length_append]
      omega
    · simp
theorem seen_len {l : List PremM} (h : ∀ p ∈ l, shortP p) : (l.flatMap seenP).length ≤ 64 * l.length := by
  induction l with
  | nil => simp
  | cons p r ih =>
    have h1 := short_len (h p (by simp))
    have h2 := ih fun x hx => h x (by simp [hx])
    rw [List.flatMap_cons, List.length_append, List.length_cons]
    omega
/-- Kinds by name are the kinds. -/
theorem kinds_of {v : Scope} (h : v.names.Nodup) : v.names.map (kindAt v) = v.kinds := by
  refine List.ext_getElem? fun i => ?_
  rw [List.getElem?_map]
  unfold Scope.names Scope.kinds at *
  simp only [List.getElem?_map]
  cases hi : v[i]? with
  | none => rfl
  | some x =>
    simp only [Option.map_some, Option.some.injEq]
    unfold kindAt Scope.names Scope.kinds posB
    obtain ⟨hl, e⟩ := List.getElem?_eq_some_iff.1 hi
    have hm : x.1 ∈ v.map (·.1) := List.mem_map.2 ⟨x, List.mem_of_getElem? hi, rfl⟩
    rw [if_pos hm]
    have hix : (v.map (·.1)).idxOf x.1 = i := by
      have h1 : (v.map (·.1))[i]'(by simpa using hl) = x.1 := by simp [e]
      rw [← h1]
      exact List.Nodup.idxOf_getElem h i _
    rw [hix, List.getD_eq_getElem?_getD, List.getElem?_map, hi]
    rfl
end Go.Proofs.YtfnobccminhjpaaGreat
