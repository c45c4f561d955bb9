/- What ResolveFits asks, of a statute that Check takes: it is so. -/
import Derived.Test.YtfnobccminhjpaaFitM9
namespace Go.Proofs.Ytfnobccminhjpaa

/-- The kind of the last of that name. -/
def lastK (v : Scope) (a : Bytes) : Int := v.foldl (fun g x => if x.1 = a then x.2 else g) (-1)
theorem fold_not {a : Bytes} : ∀ (v : Scope) (g : Int), a ∉ v.names → v.foldl (fun g x => if x.1 = a then x.2 else g) g = g := by
  intro v
  induction v with
  | nil => intro g _; rfl
  | cons x r ih =>
    intro g h
    have h1 : a ∉ Scope.names r := fun e => h (by unfold Scope.names at *; rw [List.map_cons]; exact List.mem_cons_of_mem _ e)
    have h2 : ¬ x.1 = a := fun e => h (by unfold Scope.names; rw [List.map_cons, e]; exact List.mem_cons_self)
    rw [List.foldl_cons, if_neg h2]
    exact ih g h1
theorem fold_mem {a : Bytes} {c : Int} : ∀ (v : Scope) (g : Int), v.names.Nodup → (a, c) ∈ v → v.foldl (fun g x => if x.1 = a then x.2 else g) g = c := by
  intro v
  induction v with
  | nil => intro g _ h; cases h
  | cons x r ih =>
    intro g hn h
    unfold Scope.names at hn
    rw [List.map_cons, List.nodup_cons] at hn
    rw [List.foldl_cons]
    rcases List.mem_cons.1 h with e | h
    · subst e
      rw [if_pos rfl]
      exact fold_not r _ hn.1
    · exact ih _ hn.2 h
theorem lastK_step {v : Scope} {k : Nat} {x : Bytes × Int} {a : Bytes} (h : v[k]? = some x) : lastK (v.take (k + 1)) a = if x.1 = a then x.2 else lastK (v.take k) a := by
  unfold lastK
  rw [take_snoc h, List.foldl_append]
  rfl
/-- The kind that an argument has. -/
def gotM (C : Ctx) (v : Scope) (a : Bytes) : Int := if a ∈ C.people then posB C.kinds (C.members.getD (posB C.people a) ([], [])).2 else lastK v a
def fitA (C : Ctx) (v : Scope) : List Bytes → List Bytes → Bool
  | a :: r, k :: q => decide (gotM C v a = (posB C.kinds k : Int)) && fitA C v r q
  | _, _ => true
def fitsM (C : Ctx) (v : Scope) (l : LitM) : Bool := decide (l.pred ∈ C.names) && (decide ((C.preds.getD (posB C.names l.pred) noPred).kinds.length = l.args.length) && fitA C v l.args (C.preds.getD (posB C.names l.pred) noPred).kinds)
theorem fitA_of {C : Ctx} {v : Scope} (hn : v.names.Nodup) (hp : ∀ a ∈ C.people, isVarB a = false) : ∀ (l q : List Bytes), (∀ (i : Nat) (a k : Bytes), l[i]? = some a → q[i]? = some k → (isVarB a = true ∧ (a, (posB C.kinds k : Int)) ∈ v) ∨ (isVarB a = false ∧ a ∈ C.people ∧ (C.members.getD (posB C.people a) ([], [])).2 = k)) → fitA C v l q = true := by
  intro l
  induction l with
  | nil => intro q _; unfold fitA; rfl
  | cons a r ih =>
    intro q h
    cases q with
    | nil => unfold fitA; rfl
    | cons k q =>
      have h1 : gotM C v a = (posB C.kinds k : Int) := by
        unfold gotM
        rcases h 0 a k rfl rfl with ⟨g1, g2⟩ | ⟨g1, g2, g3⟩
        · rw [if_neg (fun e => by rw [hp a e] at g1; cases g1)]
          exact fold_mem v _ hn g2
        · rw [if_pos g2, g3]
      unfold fitA
      rw [decide_eq_true h1, Bool.true_and]
      exact ih q fun i a k ha hk => h (i + 1) a k (by simpa using ha) (by simpa using hk)
theorem fits_of {C : Ctx} {v : Scope} {l : LitM} (hn : v.names.Nodup) (hp : ∀ a ∈ C.people, isVarB a = false) (h : LitFit C v l) : fitsM C v l = true := by
  obtain ⟨p, h1, h2⟩ := h
  unfold findPredM findM at h1
  obtain ⟨n, h1, h3⟩ := ex_ok h1
  obtain ⟨_, h4, h5⟩ := ex_ok h1
  have hin : l.pred ∈ C.names := by
    apply Classical.byContradiction
    intro hn
    rw [decide_eq_false hn] at h4
    cases h4
  have e1 := ok_inj h5
  have e2 := ok_inj h3
  unfold fitsM
  rw [e1, e2, decide_eq_true hin, decide_eq_true h2.1.symm, Bool.true_and, Bool.true_and]
  exact fitA_of hn hp _ _ h2.2
theorem name_not_var {s : Bytes} (h : isNameB s = true) : isVarB s = false := by
  cases hv : isVarB s with
  | false => rfl
  | true =>
    unfold isNameB speltB at h
    unfold isVarB speltB at hv
    simp only [Bool.and_eq_true, decide_eq_true_eq, smallB, capB] at h hv
    omega
theorem allM_mem {α : Type} {f : Nat → α → Er Unit} : ∀ (l : List α) (k : Nat), allM f k l = .ok () → ∀ a ∈ l, ∃ i, f i a = .ok () := by
  intro l
  induction l with
  | nil => intro k _ a ha; cases ha
  | cons x r ih =>
    intro k h a ha
    unfold allM at h
    obtain ⟨u, h1, h2⟩ := ex_ok h
    rcases List.mem_cons.1 ha with rfl | ha
    · exact ⟨k, h1⟩
    · exact ih _ h2 a ha
theorem want_of {b : Bool} {c : Int} {u : Unit} (h : wantM b c = .ok u) : b = true := by
  cases b with
  | true => rfl
  | false => cases h
/-- How many members are of the kinds ahead of that one. -/
def ltP (kinds : List Bytes) (k : Nat) (m : Bytes × Bytes) : Bool := decide (m.2 ∈ kinds) && decide (posB kinds m.2 < k)
def cnt (kinds : List Bytes) (k : Nat) (l : List (Bytes × Bytes)) : Nat := (l.filter (ltP kinds k)).length
theorem cnt_zero (kinds : List Bytes) (l : List (Bytes × Bytes)) : cnt kinds 0 l = 0 := by
  unfold cnt
  rw [List.length_eq_zero_iff, List.filter_eq_nil_iff]
  intro m _
  unfold ltP
  simp
theorem cnt_step (kinds : List Bytes) (k : Nat) : ∀ l : List (Bytes × Bytes), cnt kinds (k + 1) l = cnt kinds k l + ofN kinds (k : Int) l := by
  intro l
  induction l with
  | nil => rfl
  | cons m r ih =>
    unfold cnt ofN at *
    have e : (if ltP kinds (k + 1) m = true then 1 else 0) = (if ltP kinds k m = true then 1 else 0) + (if ofP kinds (k : Int) m = true then 1 else 0) := by
      unfold ltP ofP
      by_cases hin : m.2 ∈ kinds
      · simp only [hin, decide_true, Bool.true_and, decide_eq_true_eq]
        by_cases h1 : posB kinds m.2 < k
        · rw [if_pos h1, if_pos (by omega), if_neg (by omega)]
        · by_cases h2 : posB kinds m.2 = k
          · rw [if_neg h1, if_pos (by omega), if_pos (by omega)]
          · rw [if_neg h1, if_neg (by omega), if_neg (by omega)]
      · simp [hin]
    have f : ∀ (p : Bytes × Bytes → Bool), ((m :: r).filter p).length = (if p m = true then 1 else 0) + (r.filter p).length := by
      intro p
      by_cases h : p m = true
      · rw [if_pos h, List.filter_cons_of_pos h, List.length_cons]; omega
      · rw [if_neg h, List.filter_cons_of_neg h]; omega
    rw [f, f, f, ih, e]
    omega
theorem cnt_le (kinds : List Bytes) (k : Nat) (l : List (Bytes × Bytes)) : cnt kinds k l ≤ l.length := by unfold cnt; exact List.length_filter_le _ _
section
variable {S : StatM} (hc : (checkM S).1 = 0)
include hc
theorem chk_lens : S.kinds.length ≤ 16 ∧ S.members.length ≤ 64 ∧ S.preds.length ≤ 256 ∧ S.rules.length ≤ 512 := by
  have := fits_split.1 (check_ok.1 hc).1
  omega
theorem chk_kinds : ∀ p ∈ S.ctx.preds, ∀ k ∈ p.kinds, k ∈ S.ctx.kinds := by
  have hsp := items_split.1 (check_ok.1 hc).2
  intro p hp k hk
  obtain ⟨i, hi, rfl⟩ := List.getElem_of_mem (show p ∈ S.preds from hp)
  have h := AllOk.at.1 hsp.1.1.1.1.1.2 i _ (List.getElem?_eq_getElem hi)
  unfold predM at h
  obtain ⟨_, _, h⟩ := ex_ok h
  obtain ⟨_, _, h⟩ := ex_ok h
  obtain ⟨_, _, h⟩ := ex_ok h
  obtain ⟨_, h1, _⟩ := ex_ok h
  obtain ⟨j, h2⟩ := allM_mem _ _ h1 k hk
  unfold findM at h2
  obtain ⟨_, h3, _⟩ := ex_ok h2
  obtain ⟨_, h4, _⟩ := ex_ok h3
  exact of_decide_eq_true (want_of h4)
theorem chk_member {i : Nat} {m : Bytes × Bytes} (hm : S.members[i]? = some m) : isNameB m.1 = true ∧ m.2 ∈ S.kinds := by
  have hsp := items_split.1 (check_ok.1 hc).2
  have h := AllOk.at.1 hsp.1.1.1.1.1.1.2 i _ hm
  unfold memberM at h
  obtain ⟨_, h1, h⟩ := ex_ok h
  unfold calledM at h1
  obtain ⟨_, h1, _⟩ := ex_ok h1
  unfold findM at h
  obtain ⟨_, h2, _⟩ := ex_ok h
  obtain ⟨_, h3, _⟩ := ex_ok h2
  exact ⟨want_of h1, of_decide_eq_true (want_of h3)⟩
theorem chk_people : ∀ a ∈ S.ctx.people, isVarB a = false := by
  intro a ha
  unfold Ctx.people at ha
  obtain ⟨m, hm, rfl⟩ := List.mem_map.1 ha
  obtain ⟨i, hi⟩ := List.mem_iff_getElem?.1 (show m ∈ S.members from hm)
  exact name_not_var (chk_member hc hi).1
/-- What is asked of each rule. -/
theorem fit_all {i : Nat} {t : RuleM} (ht : S.rules[i]? = some t) : ∃ v, varsM S i = .ok v ∧ v.length ≤ 1028 ∧ fitsM S.ctx v t.head = true ∧ (∀ q ∈ t.body, q.kind = 1 → fitsM S.ctx v q.lit = true) ∧ (∀ x ∈ v, isVarB x.1 = true ∧ 0 ≤ x.2 ∧ x.2 < (S.kinds.length : Int)) ∧ t.body.length ≤ 16 := by
  have hsp := items_split.1 (check_ok.1 hc).2
  have h := AllOk.at.1 hsp.1.1.2 i _ ht
  have h16 := ruleM_sixteen h
  unfold ruleM at h
  obtain ⟨_, _, h⟩ := ex_ok h
  obtain ⟨_, _, h⟩ := ex_ok h
  obtain ⟨_, _, h⟩ := ex_ok h
  obtain ⟨_, _, h⟩ := ex_ok h
  obtain ⟨_, _, h⟩ := ex_ok h
  obtain ⟨_, _, h⟩ := ex_ok h
  obtain ⟨v, hp, h⟩ := ex_ok h
  have hno := want_of h
  have hv : varsM S i = .ok v := by
    unfold varsM
    have hlt : i < S.rules.length := by
      apply Classical.byContradiction
      intro hn
      rw [List.getElem?_eq_none (by omega)] at ht
      cases ht
    rw [decide_eq_true (by omega : (0 : Int) ≤ i), decide_eq_true (by omega : (i : Int) < (S.rules.length : Int)), Int.toNat_natCast, ht]
    exact hp
  obtain ⟨h1, h2, _⟩ := vars_fit hc hv
  obtain ⟨g1, g2, g3⟩ := parts_fit2 (chk_kinds hc) hp
  refine ⟨v, hv, h1, fits_of g1.nod (chk_people hc) g2, fun q hq hk => fits_of g1.nod (chk_people hc) (g3 q hq hk), fun x hx => ⟨h2 x.1 (List.mem_map.2 ⟨x, hx, rfl⟩), ?_⟩, h16⟩
  rcases g1.rng x hx with e | e
  · exfalso
    have : (-1 : Int) ∈ v.kinds := List.mem_map.2 ⟨x, hx, e⟩
    rw [decide_eq_true this] at hno
    cases hno
  · exact e
theorem cnt_all : cnt S.kinds S.kinds.length S.members = S.members.length := by
  unfold cnt
  rw [List.filter_eq_self.2]
  intro m hm
  obtain ⟨i, hi⟩ := List.mem_iff_getElem?.1 hm
  have := (chk_member hc hi).2
  unfold ltP
  rw [decide_eq_true this, decide_eq_true (posB_lt this)]
  rfl
end
end Go.Proofs.Ytfnobccminhjpaa
