/- In what Check takes each argument has its place's kind: plain mathematics. -/
import Derived.Test.YtfnobccminhjpaaLook9
namespace Go.Proofs.Ytfnobccminhjpaa

/-- What has a kind keeps it. -/
def Ext (v v' : Scope) : Prop := ∀ a c, (a, c) ∈ v → c ≠ -1 → (a, c) ∈ v'
theorem Ext.refl (v : Scope) : Ext v v := fun _ _ h _ => h
theorem Ext.trans {a b c : Scope} (h : Ext a b) (k : Ext b c) : Ext a c := fun x y hx hy => k x y (h x y hx hy) hy
/-- No variable stands twice; kinds are kinds' numbers, or none. -/
structure Inv (C : Ctx) (v : Scope) : Prop where
  nod : v.names.Nodup
  rng : ∀ x ∈ v, x.2 = -1 ∨ (0 ≤ x.2 ∧ x.2 < (C.kinds.length : Int))
/-- Whether arguments have these kinds. -/
def Fit (C : Ctx) (v : Scope) (l q : List Bytes) : Prop := l.length = q.length ∧ ∀ (i : Nat) (a k : Bytes), l[i]? = some a → q[i]? = some k → (isVarB a = true ∧ (a, (posB C.kinds k : Int)) ∈ v) ∨ (isVarB a = false ∧ a ∈ C.people ∧ (C.members.getD (posB C.people a) ([], [])).2 = k)
theorem Fit.mono {C : Ctx} {v v' : Scope} {l q : List Bytes} (h : Fit C v l q) (e : Ext v v') : Fit C v' l q := by
  refine ⟨h.1, fun i a k ha hk => ?_⟩
  rcases h.2 i a k ha hk with ⟨h1, h2⟩ | h1
  · exact .inl ⟨h1, e _ _ h2 (by omega)⟩
  · exact .inr h1
def LitFit (C : Ctx) (v : Scope) (l : LitM) : Prop := ∃ p, findPredM C l.pred = .ok p ∧ Fit C v l.args p.kinds

theorem posB_lt {l : List Bytes} {s : Bytes} (h : s ∈ l) : posB l s < l.length := by unfold posB; rw [if_pos h]; exact List.idxOf_lt_length_iff.2 h
theorem posB_at {l : List Bytes} {s : Bytes} (h : s ∈ l) : l[posB l s]? = some s := by
  have hl := posB_lt h
  rw [List.getElem?_eq_getElem hl]
  unfold posB at hl ⊢
  simp only [if_pos h] at hl ⊢
  exact congrArg some (List.getElem_idxOf hl)
theorem names_mem {v : Scope} {a : Bytes} {c : Int} (h : (a, c) ∈ v) : a ∈ v.names := List.mem_map.2 ⟨_, h, rfl⟩
theorem nod_at {v : Scope} (h : v.names.Nodup) {i j : Nat} {a : Bytes} {c d : Int} (hi : v[i]? = some (a, c)) (hj : v[j]? = some (a, d)) : i = j := by
  have h1 : v.names[i]? = some a := by unfold Scope.names; rw [List.getElem?_map, hi]; rfl
  have h2 : v.names[j]? = some a := by unfold Scope.names; rw [List.getElem?_map, hj]; rfl
  exact (List.getElem?_inj (by obtain ⟨h, _⟩ := List.getElem?_eq_some_iff.1 h1; exact h) h).1 (h1.trans h2.symm)
section
variable {C : Ctx} {v v' : Scope} {s : Bytes} {k : Int}
theorem Inv.stand (h : Inv C v) : Inv C (standM v s) ∧ Ext v (standM v s) ∧ s ∈ (standM v s).names := by
  unfold standM
  split
  · exact ⟨h, Ext.refl _, by assumption⟩
  · refine ⟨⟨?_, ?_⟩, fun a c ha _ => List.mem_append.2 (.inl ha), ?_⟩
    · unfold Scope.names
      rw [List.map_append, List.nodup_append]
      refine ⟨h.nod, by simp, ?_⟩
      intro a ha b hb e
      simp at hb
      subst hb
      subst e
      exact absurd ha (by assumption)
    · intro x hx
      rcases List.mem_append.1 hx with hx | hx
      · exact h.rng x hx
      · simp at hx; subst hx; exact .inl rfl
    · unfold Scope.names
      rw [List.map_append]
      exact List.mem_append.2 (.inr (by simp))
theorem at_pos (hs : s ∈ v.names) : v[posB v.names s]? = some (s, kindAt v s) := by
  have hl := posB_lt hs
  have hvn : v.names.length = v.length := by unfold Scope.names; simp
  have hl' : posB v.names s < v.length := by rw [hvn] at hl; exact hl
  have h1 := posB_at hs
  unfold kindAt
  generalize posB v.names s = p at *
  rw [List.getElem?_eq_getElem hl']
  unfold Scope.names at h1
  unfold Scope.kinds
  rw [List.getElem?_map, List.getElem?_eq_getElem hl'] at h1
  simp at h1
  have h2 : (v.map (·.2)).getD p 0 = v[p].2 := by simp [List.getD, hl']
  rw [h2, ← h1]
theorem Inv.bindS (h : Inv C v) (hk : 0 ≤ k ∧ k < (C.kinds.length : Int)) : Inv C (bindS v s k) ∧ Ext v (bindS v s k) ∧ s ∈ (bindS v s k).names := by
  obtain ⟨h1, h2, h3⟩ := h.stand (s := s)
  unfold Go.Proofs.Ytfnobccminhjpaa.bindS
  split
  · rename_i hz
    have hp := at_pos h3
    rw [hz] at hp
    generalize posB (standM v s).names s = p at *
    obtain ⟨hlt, he⟩ := List.getElem?_eq_some_iff.1 hp
    have hn : Scope.names ((standM v s).set p (s, k)) = (standM v s).names := by
      unfold Scope.names
      rw [List.map_set]
      apply List.ext_getElem?
      intro j
      rw [List.getElem?_set]
      by_cases e : p = j
      · subst e
        rw [if_pos rfl, List.length_map, if_pos hlt, List.getElem?_map, hp]; rfl
      · rw [if_neg e]
    refine ⟨⟨by rw [hn]; exact h1.nod, fun x hx => ?_⟩, fun a c ha hc => ?_, by rw [hn]; exact h3⟩
    · rcases List.mem_or_eq_of_mem_set hx with hx | rfl
      · exact h1.rng x hx
      · exact .inr hk
    · obtain ⟨j, hj⟩ := List.mem_iff_getElem?.1 (h2 a c ha hc)
      refine List.mem_iff_getElem?.2 ⟨j, ?_⟩
      rw [List.getElem?_set]
      by_cases e : p = j
      · subst e
        rw [hp] at hj
        cases hj
        exact absurd rfl hc
      · rw [if_neg e]; exact hj
  · exact ⟨h1, h2, h3⟩
theorem Inv.bindM (h : Inv C v) (hk : 0 ≤ k ∧ k < (C.kinds.length : Int)) (hb : bindM v s k = .ok v') : Inv C v' ∧ Ext v v' ∧ (s, k) ∈ v' := by
  unfold Go.Proofs.Ytfnobccminhjpaa.bindM at hb
  obtain ⟨_, h1, h2⟩ := ex_ok hb
  obtain ⟨g1, g2, g3⟩ := h.bindS (s := s) hk
  rw [← ok_inj h2]
  refine ⟨g1, g2, ?_⟩
  have hkk : kindAt (Go.Proofs.Ytfnobccminhjpaa.bindS v s k) s = k := by
    apply Classical.byContradiction
    intro hn
    rw [decide_eq_false hn] at h1
    cases h1
  have := at_pos g3
  rw [hkk] at this
  exact List.mem_of_getElem? this
end
theorem args_fit {C : Ctx} : ∀ (l q : List Bytes) (v : Scope) (ms : List Nat) (x : Scope × List Nat), Inv C v → (∀ k ∈ q, k ∈ C.kinds) → l.length = q.length → argsM C v ms l q = .ok x → Inv C x.1 ∧ Ext v x.1 ∧ Fit C x.1 l q := by
  intro l
  induction l with
  | nil =>
    intro q v ms x hv hq hl h
    cases q with
    | nil => unfold argsM at h; rw [← ok_inj h]; exact ⟨hv, Ext.refl _, rfl, fun i a k ha => by simp at ha⟩
    | cons => cases hl
  | cons s r ih =>
    intro q v ms x hv hq hl h
    cases q with
    | nil => cases hl
    | cons k q =>
      have hl' : r.length = q.length := by simpa using hl
      have hq' : ∀ k ∈ q, k ∈ C.kinds := fun k hk => hq k (List.mem_cons_of_mem _ hk)
      unfold argsM at h
      by_cases hvs : isVarB s = true
      · rw [if_pos hvs] at h
        obtain ⟨v2, h1, h2⟩ := ex_ok h
        have hk := posB_lt (hq k (List.mem_cons_self))
        obtain ⟨g1, g2, g3⟩ := hv.bindM ⟨by omega, by omega⟩ h1
        obtain ⟨f1, f2, f3⟩ := ih q v2 ms x g1 hq' hl' h2
        refine ⟨f1, g2.trans f2, hl, fun i a k' ha hk' => ?_⟩
        cases i with
        | zero => simp at ha hk'; subst ha; subst hk'; exact .inl ⟨hvs, f2 _ _ g3 (by omega)⟩
        | succ i => exact f3.2 i a k' (by simpa using ha) (by simpa using hk')
      · rw [if_neg hvs] at h
        obtain ⟨m, hm, h2⟩ := ex_ok h
        obtain ⟨_, hw, h3⟩ := ex_ok h2
        obtain ⟨f1, f2, f3⟩ := ih q v _ x hv hq' hl' h3
        refine ⟨f1, f2, hl, fun i a k' ha hk' => ?_⟩
        cases i with
        | zero =>
          simp at ha hk'; subst ha; subst hk'
          unfold findMemberM at hm
          obtain ⟨_, _, hm⟩ := ex_ok hm
          unfold findM at hm
          obtain ⟨_, hin, hm⟩ := ex_ok hm
          have hin' : s ∈ C.people := by
            apply Classical.byContradiction
            intro hn
            rw [decide_eq_false hn] at hin
            cases hin
          have hm' := ok_inj hm
          refine .inr ⟨by simpa using hvs, hin', ?_⟩
          rw [hm']
          apply Classical.byContradiction
          intro hn
          rw [decide_eq_false hn] at hw
          cases hw
        | succ i => exact f3.2 i a k' (by simpa using ha) (by simpa using hk')
section
variable {C : Ctx} (hp : ∀ p ∈ C.preds, ∀ k ∈ p.kinds, k ∈ C.kinds)
include hp
theorem arguments_fit {v : Scope} {p : PredM} {l : List Bytes} {x : Scope × List Nat} (hpm : p ∈ C.preds) (hv : Inv C v) (h : argumentsM C v p l = .ok x) : Inv C x.1 ∧ Ext v x.1 ∧ Fit C x.1 l p.kinds := by
  unfold argumentsM at h
  obtain ⟨_, h1, h2⟩ := ex_ok h
  have hl : l.length = p.kinds.length := by
    by_cases hh : (l.length : Int) = (p.kinds.length : Int)
    · omega
    · rw [decide_eq_false hh] at h1; cases h1
  exact args_fit _ _ _ _ _ hv (hp p hpm) hl h2
theorem literal_fit {v : Scope} {l : LitM} {x : Scope × List Nat} (hv : Inv C v) (h : literalM C v l = .ok x) : Inv C x.1 ∧ Ext v x.1 ∧ LitFit C x.1 l := by
  unfold literalM at h
  obtain ⟨p, hp1, h⟩ := ex_ok h
  obtain ⟨_, _, h⟩ := ex_ok h
  obtain ⟨y, hy, h⟩ := ex_ok h
  obtain ⟨_, _, h⟩ := ex_ok h
  obtain ⟨_, _, h⟩ := ex_ok h
  obtain ⟨_, _, h⟩ := ex_ok h
  rw [← ok_inj h]
  obtain ⟨g1, g2, g3⟩ := arguments_fit hp (findPredM_mem hp1) hv hy
  exact ⟨g1, g2, p, hp1, g3⟩
theorem term_fit {v v' : Scope} {t : TermM} (hv : Inv C v) (h : termM C v t = .ok v') : Inv C v' ∧ Ext v v' := by
  unfold termM at h
  by_cases ht : t.pred = []
  · rw [if_pos ht] at h
    obtain ⟨_, _, h⟩ := ex_ok h
    obtain ⟨_, _, h⟩ := ex_ok h
    rw [← ok_inj h]; exact ⟨hv, Ext.refl _⟩
  · rw [if_neg ht] at h
    obtain ⟨p, hp1, h⟩ := ex_ok h
    obtain ⟨_, _, h⟩ := ex_ok h
    obtain ⟨_, _, h⟩ := ex_ok h
    obtain ⟨y, hy, h⟩ := ex_ok h
    rw [← ok_inj h]
    obtain ⟨g1, g2, _⟩ := arguments_fit hp (findPredM_mem hp1) hv hy
    exact ⟨g1, g2⟩
theorem terms_fit : ∀ (l : List TermM) (v v' : Scope), Inv C v → termsM C v l = .ok v' → Inv C v' ∧ Ext v v' := by
  intro l
  induction l with
  | nil => intro v v' hv h; unfold termsM at h; rw [← ok_inj h]; exact ⟨hv, Ext.refl _⟩
  | cons t r ih =>
    intro v v' hv h
    unfold termsM at h
    obtain ⟨v2, h1, h2⟩ := ex_ok h
    obtain ⟨g1, g2⟩ := term_fit hp hv h1
    obtain ⟨f1, f2⟩ := ih _ _ g1 h2
    exact ⟨f1, g2.trans f2⟩
omit hp in
theorem unlike_fit {v v' : Scope} {s : Bytes} (hv : Inv C v) (h : unlikeM C v s = .ok v') : Inv C v' ∧ Ext v v' := by
  unfold unlikeM at h
  by_cases hs : isVarB s = true
  · rw [if_pos hs] at h; rw [← ok_inj h]; exact ⟨hv.stand.1, hv.stand.2.1⟩
  · rw [if_neg hs] at h
    obtain ⟨_, _, h⟩ := ex_ok h
    rw [← ok_inj h]; exact ⟨hv, Ext.refl _⟩
theorem prem_fit {v v' : Scope} {q : PremM} (hv : Inv C v) (h : premM C v q = .ok v') : Inv C v' ∧ Ext v v' ∧ (q.kind = 1 → LitFit C v' q.lit) := by
  unfold premM at h
  by_cases h1 : q.kind = 1
  · rw [if_pos h1] at h
    obtain ⟨x, hx, h⟩ := ex_ok h
    rw [← ok_inj h]
    obtain ⟨g1, g2, g3⟩ := literal_fit hp hv hx
    exact ⟨g1, g2, fun _ => g3⟩
  · rw [if_neg h1] at h
    by_cases h2 : q.kind = 2
    · rw [if_pos h2] at h
      unfold guardM at h
      obtain ⟨_, _, h⟩ := ex_ok h
      obtain ⟨_, _, h⟩ := ex_ok h
      obtain ⟨v2, h3, h⟩ := ex_ok h
      obtain ⟨g1, g2⟩ := terms_fit hp _ _ _ hv h3
      obtain ⟨f1, f2⟩ := terms_fit hp _ _ _ g1 h
      exact ⟨f1, g2.trans f2, fun e => absurd e h1⟩
    · rw [if_neg h2] at h
      by_cases h3 : q.kind = 3
      · rw [if_pos h3] at h
        obtain ⟨v2, hx, h⟩ := ex_ok h
        obtain ⟨g1, g2⟩ := unlike_fit hv hx
        obtain ⟨f1, f2⟩ := unlike_fit g1 h
        exact ⟨f1, g2.trans f2, fun e => absurd e h1⟩
      · rw [if_neg h3] at h; cases h
theorem body_fit : ∀ (l : List PremM) (v v' : Scope), Inv C v → bodyM C v l = .ok v' → Inv C v' ∧ Ext v v' ∧ ∀ q ∈ l, q.kind = 1 → LitFit C v' q.lit := by
  intro l
  induction l with
  | nil => intro v v' hv h; unfold bodyM at h; rw [← ok_inj h]; exact ⟨hv, Ext.refl _, fun q hq => by cases hq⟩
  | cons t r ih =>
    intro v v' hv h
    unfold bodyM at h
    obtain ⟨v2, h1, h2⟩ := ex_ok h
    obtain ⟨g1, g2, g3⟩ := prem_fit hp hv h1
    obtain ⟨f1, f2, f3⟩ := ih _ _ g1 h2
    refine ⟨f1, g2.trans f2, fun q hq hk => ?_⟩
    rcases List.mem_cons.1 hq with rfl | hq
    · obtain ⟨p, e1, e2⟩ := g3 hk
      exact ⟨p, e1, e2.mono f2⟩
    · exact f3 q hq hk
theorem parts_fit2 {t : RuleM} {v : Scope} (h : partsM C t = .ok v) : Inv C v ∧ LitFit C v t.head ∧ ∀ q ∈ t.body, q.kind = 1 → LitFit C v q.lit := by
  unfold partsM at h
  obtain ⟨v2, h1, h⟩ := ex_ok h
  obtain ⟨x, h2, h⟩ := ex_ok h
  rw [← ok_inj h]
  obtain ⟨g1, _, g3⟩ := body_fit hp _ _ _ (⟨by unfold Scope.names; simp, fun x hx => by cases hx⟩ : Inv C []) h1
  obtain ⟨f1, f2, f3⟩ := literal_fit hp g1 h2
  refine ⟨f1, f3, fun q hq hk => ?_⟩
  obtain ⟨p, e1, e2⟩ := g3 q hq hk
  exact ⟨p, e1, e2.mono f2⟩
end
end Go.Proofs.Ytfnobccminhjpaa
/- What ResolveFits asks, of a statute that Check takes: it is so. -/
namespace Go.Proofs.Ytfnobccminhjpaa

/-- The kind of the last of that name. -/
def lastK (v : Scope) (a : Bytes) : Int := v.foldl (fun g x => if x.1 = a then x.2 else g) (-1)
theorem fold_not {a : Bytes} : ∀ (v : Scope) (g : Int), a ∉ v.names → v.foldl (fun g x => if x.1 = a then x.2 else g) g = g := by
  intro v
  induction v with
  | nil => intro g _; rfl
  | cons x r ih =>
    intro g h
    have h1 : a ∉ Scope.names r := fun e => h (by unfold Scope.names at *; rw [List.map_cons]; exact List.mem_cons_of_mem _ e)
    have h2 : ¬ x.1 = a := fun e => h (by unfold Scope.names; rw [List.map_cons, e]; exact List.mem_cons_self)
    rw [List.foldl_cons, if_neg h2]
    exact ih g h1
theorem fold_mem {a : Bytes} {c : Int} : ∀ (v : Scope) (g : Int), v.names.Nodup → (a, c) ∈ v → v.foldl (fun g x => if x.1 = a then x.2 else g) g = c := by
  intro v
  induction v with
  | nil => intro g _ h; cases h
  | cons x r ih =>
    intro g hn h
    unfold Scope.names at hn
    rw [List.map_cons, List.nodup_cons] at hn
    rw [List.foldl_cons]
    rcases List.mem_cons.1 h with e | h
    · subst e
      rw [if_pos rfl]
      exact fold_not r _ hn.1
    · exact ih _ hn.2 h
theorem lastK_step {v : Scope} {k : Nat} {x : Bytes × Int} {a : Bytes} (h : v[k]? = some x) : lastK (v.take (k + 1)) a = if x.1 = a then x.2 else lastK (v.take k) a := by
  unfold lastK
  rw [take_snoc h, List.foldl_append]
  rfl
/-- The kind that an argument has. -/
def gotM (C : Ctx) (v : Scope) (a : Bytes) : Int := if a ∈ C.people then posB C.kinds (C.members.getD (posB C.people a) ([], [])).2 else lastK v a
def fitA (C : Ctx) (v : Scope) : List Bytes → List Bytes → Bool
  | a :: r, k :: q => decide (gotM C v a = (posB C.kinds k : Int)) && fitA C v r q
  | _, _ => true
def fitsM (C : Ctx) (v : Scope) (l : LitM) : Bool := decide (l.pred ∈ C.names) && (decide ((C.preds.getD (posB C.names l.pred) noPred).kinds.length = l.args.length) && fitA C v l.args (C.preds.getD (posB C.names l.pred) noPred).kinds)
theorem fitA_of {C : Ctx} {v : Scope} (hn : v.names.Nodup) (hp : ∀ a ∈ C.people, isVarB a = false) : ∀ (l q : List Bytes), (∀ (i : Nat) (a k : Bytes), l[i]? = some a → q[i]? = some k → (isVarB a = true ∧ (a, (posB C.kinds k : Int)) ∈ v) ∨ (isVarB a = false ∧ a ∈ C.people ∧ (C.members.getD (posB C.people a) ([], [])).2 = k)) → fitA C v l q = true := by
  intro l
  induction l with
  | nil => intro q _; unfold fitA; rfl
  | cons a r ih =>
    intro q h
    cases q with
    | nil => unfold fitA; rfl
    | cons k q =>
      have h1 : gotM C v a = (posB C.kinds k : Int) := by
        unfold gotM
        rcases h 0 a k rfl rfl with ⟨g1, g2⟩ | ⟨g1, g2, g3⟩
        · rw [if_neg (fun e => by rw [hp a e] at g1; cases g1)]
          exact fold_mem v _ hn g2
        · rw [if_pos g2, g3]
      unfold fitA
      rw [decide_eq_true h1, Bool.true_and]
      exact ih q fun i a k ha hk => h (i + 1) a k (by simpa using ha) (by simpa using hk)
theorem fits_of {C : Ctx} {v : Scope} {l : LitM} (hn : v.names.Nodup) (hp : ∀ a ∈ C.people, isVarB a = false) (h : LitFit C v l) : fitsM C v l = true := by
  obtain ⟨p, h1, h2⟩ := h
  unfold findPredM findM at h1
  obtain ⟨n, h1, h3⟩ := ex_ok h1
  obtain ⟨_, h4, h5⟩ := ex_ok h1
  have hin : l.pred ∈ C.names := by
    apply Classical.byContradiction
    intro hn
    rw [decide_eq_false hn] at h4
    cases h4
  have e1 := ok_inj h5
  have e2 := ok_inj h3
  unfold fitsM
  rw [e1, e2, decide_eq_true hin, decide_eq_true h2.1.symm, Bool.true_and, Bool.true_and]
  exact fitA_of hn hp _ _ h2.2
theorem name_not_var {s : Bytes} (h : isNameB s = true) : isVarB s = false := by
  cases hv : isVarB s with
  | false => rfl
  | true =>
    unfold isNameB speltB at h
    unfold isVarB speltB at hv
    simp only [Bool.and_eq_true, decide_eq_true_eq, smallB, capB] at h hv
    omega
theorem allM_mem {α : Type} {f : Nat → α → Er Unit} : ∀ (l : List α) (k : Nat), allM f k l = .ok () → ∀ a ∈ l, ∃ i, f i a = .ok () := by
  intro l
  induction l with
  | nil => intro k _ a ha; cases ha
  | cons x r ih =>
    intro k h a ha
    unfold allM at h
    obtain ⟨u, h1, h2⟩ := ex_ok h
    rcases List.mem_cons.1 ha with rfl | ha
    · exact ⟨k, h1⟩
    · exact ih _ h2 a ha
theorem want_of {b : Bool} {c : Int} {u : Unit} (h : wantM b c = .ok u) : b = true := by
  cases b with
  | true => rfl
  | false => cases h
/-- How many members are of the kinds ahead of that one. -/
def ltP (kinds : List Bytes) (k : Nat) (m : Bytes × Bytes) : Bool := decide (m.2 ∈ kinds) && decide (posB kinds m.2 < k)
def cnt (kinds : List Bytes) (k : Nat) (l : List (Bytes × Bytes)) : Nat := (l.filter (ltP kinds k)).length
theorem cnt_zero (kinds : List Bytes) (l : List (Bytes × Bytes)) : cnt kinds 0 l = 0 := by
  unfold cnt
  rw [List.length_eq_zero_iff, List.filter_eq_nil_iff]
  intro m _
  unfold ltP
  simp
theorem cnt_step (kinds : List Bytes) (k : Nat) : ∀ l : List (Bytes × Bytes), cnt kinds (k + 1) l = cnt kinds k l + ofN kinds (k : Int) l := by
  intro l
  induction l with
  | nil => rfl
  | cons m r ih =>
    unfold cnt ofN at *
    have e : (if ltP kinds (k + 1) m = true then 1 else 0) = (if ltP kinds k m = true then 1 else 0) + (if ofP kinds (k : Int) m = true then 1 else 0) := by
      unfold ltP ofP
      by_cases hin : m.2 ∈ kinds
      · simp only [hin, decide_true, Bool.true_and, decide_eq_true_eq]
        by_cases h1 : posB kinds m.2 < k
        · rw [if_pos h1, if_pos (by omega), if_neg (by omega)]
        · by_cases h2 : posB kinds m.2 = k
          · rw [if_neg h1, if_pos (by omega), if_pos (by omega)]
          · rw [if_neg h1, if_neg (by omega), if_neg (by omega)]
      · simp [hin]
    have f : ∀ (p : Bytes × Bytes → Bool), ((m :: r).filter p).length = (if p m = true then 1 else 0) + (r.filter p).length := by
      intro p
      by_cases h : p m = true
      · rw [if_pos h, List.filter_cons_of_pos h, List.length_cons]; omega
      · rw [if_neg h, List.filter_cons_of_neg h]; omega
    rw [f, f, f, ih, e]
    omega
theorem cnt_le (kinds : List Bytes) (k : Nat) (l : List (Bytes × Bytes)) : cnt kinds k l ≤ l.length := by unfold cnt; exact List.length_filter_le _ _
section
variable {S : StatM} (hc : (checkM S).1 = 0)
include hc
theorem chk_lens : S.kinds.length ≤ 16 ∧ S.members.length ≤ 64 ∧ S.preds.length ≤ 256 ∧ S.rules.length ≤ 512 := by
  have := fits_split.1 (check_ok.1 hc).1
  omega
theorem chk_kinds : ∀ p ∈ S.ctx.preds, ∀ k ∈ p.kinds, k ∈ S.ctx.kinds := by
  have hsp := items_split.1 (check_ok.1 hc).2
  intro p hp k hk
  obtain ⟨i, hi, rfl⟩ := List.getElem_of_mem (show p ∈ S.preds from hp)
  have h := AllOk.at.1 hsp.1.1.1.1.1.2 i _ (List.getElem?_eq_getElem hi)
  unfold predM at h
  obtain ⟨_, _, h⟩ := ex_ok h
  obtain ⟨_, _, h⟩ := ex_ok h
  obtain ⟨_, _, h⟩ := ex_ok h
  obtain ⟨_, h1, _⟩ := ex_ok h
  obtain ⟨j, h2⟩ := allM_mem _ _ h1 k hk
  unfold findM at h2
  obtain ⟨_, h3, _⟩ := ex_ok h2
  obtain ⟨_, h4, _⟩ := ex_ok h3
  exact of_decide_eq_true (want_of h4)
theorem chk_member {i : Nat} {m : Bytes × Bytes} (hm : S.members[i]? = some m) : isNameB m.1 = true ∧ m.2 ∈ S.kinds := by
  have hsp := items_split.1 (check_ok.1 hc).2
  have h := AllOk.at.1 hsp.1.1.1.1.1.1.2 i _ hm
  unfold memberM at h
  obtain ⟨_, h1, h⟩ := ex_ok h
  unfold calledM at h1
  obtain ⟨_, h1, _⟩ := ex_ok h1
  unfold findM at h
  obtain ⟨_, h2, _⟩ := ex_ok h
  obtain ⟨_, h3, _⟩ := ex_ok h2
  exact ⟨want_of h1, of_decide_eq_true (want_of h3)⟩
theorem chk_people : ∀ a ∈ S.ctx.people, isVarB a = false := by
  intro a ha
  unfold Ctx.people at ha
  obtain ⟨m, hm, rfl⟩ := List.mem_map.1 ha
  obtain ⟨i, hi⟩ := List.mem_iff_getElem?.1 (show m ∈ S.members from hm)
  exact name_not_var (chk_member hc hi).1
/-- What is asked of each rule. -/
theorem fit_all {i : Nat} {t : RuleM} (ht : S.rules[i]? = some t) : ∃ v, varsM S i = .ok v ∧ v.length ≤ 1028 ∧ fitsM S.ctx v t.head = true ∧ (∀ q ∈ t.body, q.kind = 1 → fitsM S.ctx v q.lit = true) ∧ (∀ x ∈ v, isVarB x.1 = true ∧ 0 ≤ x.2 ∧ x.2 < (S.kinds.length : Int)) ∧ t.body.length ≤ 16 := by
  have hsp := items_split.1 (check_ok.1 hc).2
  have h := AllOk.at.1 hsp.1.1.2 i _ ht
  have h16 := ruleM_sixteen h
  unfold ruleM at h
  obtain ⟨_, _, h⟩ := ex_ok h
  obtain ⟨_, _, h⟩ := ex_ok h
  obtain ⟨_, _, h⟩ := ex_ok h
  obtain ⟨_, _, h⟩ := ex_ok h
  obtain ⟨_, _, h⟩ := ex_ok h
  obtain ⟨_, _, h⟩ := ex_ok h
  obtain ⟨v, hp, h⟩ := ex_ok h
  have hno := want_of h
  have hv : varsM S i = .ok v := by
    unfold varsM
    have hlt : i < S.rules.length := by
      apply Classical.byContradiction
      intro hn
      rw [List.getElem?_eq_none (by omega)] at ht
      cases ht
    rw [decide_eq_true (by omega : (0 : Int) ≤ i), decide_eq_true (by omega : (i : Int) < (S.rules.length : Int)), Int.toNat_natCast, ht]
    exact hp
  obtain ⟨h1, h2, _⟩ := vars_fit hc hv
  obtain ⟨g1, g2, g3⟩ := parts_fit2 (chk_kinds hc) hp
  refine ⟨v, hv, h1, fits_of g1.nod (chk_people hc) g2, fun q hq hk => fits_of g1.nod (chk_people hc) (g3 q hq hk), fun x hx => ⟨h2 x.1 (List.mem_map.2 ⟨x, hx, rfl⟩), ?_⟩, h16⟩
  rcases g1.rng x hx with e | e
  · exfalso
    have : (-1 : Int) ∈ v.kinds := List.mem_map.2 ⟨x, hx, e⟩
    rw [decide_eq_true this] at hno
    cases hno
  · exact e
theorem cnt_all : cnt S.kinds S.kinds.length S.members = S.members.length := by
  unfold cnt
  rw [List.filter_eq_self.2]
  intro m hm
  obtain ⟨i, hi⟩ := List.mem_iff_getElem?.1 hm
  have := (chk_member hc hi).2
  unfold ltP
  rw [decide_eq_true this, decide_eq_true (posB_lt this)]
  rfl
end
end Go.Proofs.Ytfnobccminhjpaa
