/- A right statute with less of it. -/
import Derived.Test.YtfnobccminhjpabGreatNz8
namespace Go.Proofs.YtfnobccminhjpabGreat
theorem AllOk.split {l m : List (Er Unit)} : AllOk (l ++ m) ↔ AllOk l ∧ AllOk m := ⟨fun h => ⟨fun x hx => h x (List.mem_append.2 (.inl hx)), fun x hx => h x (List.mem_append.2 (.inr hx))⟩, fun h => h.1.app h.2⟩
theorem items_split {S : StatM} : AllOk S.items ↔ ((((((AllOk (S.kinds.mapIdx (kindM S.kinds)) ∧ AllOk (S.members.mapIdx (memberM S.ctx))) ∧ AllOk (S.preds.mapIdx (predM S.ctx))) ∧ AllOk (S.classes.mapIdx (clsM S))) ∧ AllOk (S.sources.mapIdx (sourceM S.srcs))) ∧ AllOk (S.rules.mapIdx (ruleM S.ctx S.srcs S.heads))) ∧ AllOk (S.excepts.mapIdx (exceptM S.heads S.keys))) ∧ AllOk (S.totals.mapIdx (totalM S.ctx S.sums)) := by
  unfold StatM.items
  rw [AllOk.split, AllOk.split, AllOk.split, AllOk.split, AllOk.split, AllOk.split, AllOk.split]
theorem items_len (S : StatM) : S.items.length = S.kinds.length + S.members.length + S.preds.length + S.classes.length + S.sources.length + S.rules.length + S.excepts.length + S.totals.length := by
  unfold StatM.items
  simp only [List.length_append, List.length_mapIdx]
theorem fits_split {S : StatM} : S.fitsB = true ↔ (((((((S.kinds.length ≤ 16 ∧ S.members.length ≤ 64) ∧ S.preds.length ≤ 256) ∧ S.classes.length ≤ 64) ∧ S.sources.length ≤ 64) ∧ S.rules.length ≤ 512) ∧ S.excepts.length ≤ 512) ∧ S.totals.length ≤ 64) := by
  unfold StatM.fitsB
  simp only [Bool.and_eq_true, decide_eq_true_eq]
theorem less_totals {S : StatM} (h : (checkM S).1 = 0) : (checkM { S with totals := [] }).1 = 0 ∧ (checkM { S with totals := [] }).2 ≤ (checkM S).2 := by
  obtain ⟨hf, ha⟩ := check_ok.1 h
  have hf' := fits_split.1 hf
  have ha' := items_split.1 ha
  have h2 : (checkM { S with totals := [] }).1 = 0 := check_ok.2 ⟨fits_split.2 ⟨hf'.1, by simp⟩, items_split.2 ⟨ha'.1, AllOk.nil⟩⟩
  refine ⟨h2, ?_⟩
  rw [check_len h, check_len h2, items_len, items_len]
  simp only [List.length_nil]
  omega
theorem less_excepts {S : StatM} (h : (checkM S).1 = 0) : (checkM { S with excepts := [] }).1 = 0 ∧ (checkM { S with excepts := [] }).2 ≤ (checkM S).2 := by
  obtain ⟨hf, ha⟩ := check_ok.1 h
  have hf' := fits_split.1 hf
  have ha' := items_split.1 ha
  have h2 : (checkM { S with excepts := [] }).1 = 0 := check_ok.2 ⟨fits_split.2 ⟨⟨hf'.1.1, by simp⟩, hf'.2⟩, items_split.2 ⟨⟨ha'.1.1, AllOk.nil⟩, ha'.2⟩⟩
  refine ⟨h2, ?_⟩
  rw [check_len h, check_len h2, items_len, items_len]
  simp only [List.length_nil]
  omega
theorem AllOk.at {α : Type} {f : Nat → α → Er Unit} {l : List α} : AllOk (l.mapIdx f) ↔ ∀ i x, l[i]? = some x → f i x = .ok () := by
  constructor
  · intro h i x hx
    exact h _ (List.mem_iff_getElem?.2 ⟨i, by rw [List.getElem?_mapIdx, hx]; rfl⟩)
  · intro h y hy
    obtain ⟨i, hi⟩ := List.mem_iff_getElem?.1 hy
    rw [List.getElem?_mapIdx] at hi
    obtain ⟨x, hx, rfl⟩ := Option.map_eq_some_iff.1 hi
    exact h i x hx
theorem called_take {l : List Bytes} {s : Bytes} {n k : Nat} (h : calledM l s n = .ok ()) (hx : l[n]? = some s) (hk : n < k) : calledM (l.take k) s n = .ok () := by
  unfold calledM at h ⊢
  obtain ⟨_, h1, h2⟩ := ex_ok h
  rw [h1]
  show wantM _ 6 = .ok ()
  have hp : ((posB l s : Int) = (n : Int)) := by
    apply Classical.byContradiction
    intro hn
    rw [decide_eq_false hn] at h2
    cases h2
  have hm : s ∈ l.take k := List.mem_iff_getElem?.2 ⟨n, by rw [List.getElem?_take, if_pos hk]; exact hx⟩
  have hm2 : s ∈ l := List.mem_of_mem_take hm
  have e : posB (l.take k) s = posB l s := by
    unfold posB
    rw [if_pos hm, if_pos hm2]
    conv => rhs; rw [← List.take_append_drop k l]
    rw [List.idxOf_append, if_pos hm]
  rw [e, decide_eq_true hp]
  rfl
theorem less_rules {S : StatM} (h : (checkM S).1 = 0) (he : S.excepts = []) (k : Nat) : (checkM { S with rules := S.rules.take k }).1 = 0 ∧ (checkM { S with rules := S.rules.take k }).2 ≤ (checkM S).2 := by
  obtain ⟨hf, ha⟩ := check_ok.1 h
  have hf' := fits_split.1 hf
  have ha' := items_split.1 ha
  have h2 : (checkM { S with rules := S.rules.take k }).1 = 0 := by
    refine check_ok.2 ⟨fits_split.2 ⟨⟨⟨hf'.1.1.1, by simp only [List.length_take]; omega⟩, hf'.1.2⟩, hf'.2⟩, items_split.2 ⟨⟨⟨ha'.1.1.1, ?_⟩, ?_⟩, ha'.2⟩⟩
    · refine AllOk.at.2 fun i x hx => ?_
      simp only at hx
      rw [List.getElem?_take] at hx
      by_cases hik : i < k
      · rw [if_pos hik] at hx
        have h0 := AllOk.at.1 ha'.1.1.2 i x hx
        unfold ruleM at h0 ⊢
        obtain ⟨_, h1, h0⟩ := ex_ok h0
        have h3 := called_take (k := k) h1 (by unfold StatM.heads; rw [List.getElem?_map, hx]; rfl) hik
        have e : StatM.heads { S with rules := S.rules.take k } = (S.heads).take k := by unfold StatM.heads; simp only [List.map_take]
        rw [e, h3]
        exact h0
      · rw [if_neg hik] at hx; cases hx
    · simp only [he]; exact AllOk.nil
  refine ⟨h2, ?_⟩
  rw [check_len h, check_len h2, items_len, items_len]
  simp only [List.length_take]
  omega
theorem less_classes {S : StatM} (h : (checkM S).1 = 0) (k : Nat) : (checkM { S with classes := S.classes.take k }).1 = 0 ∧ (checkM { S with classes := S.classes.take k }).2 ≤ (checkM S).2 := by
  obtain ⟨hf, ha⟩ := check_ok.1 h
  have hf' := fits_split.1 hf
  have ha' := items_split.1 ha
  have h2 : (checkM { S with classes := S.classes.take k }).1 = 0 := by
    refine check_ok.2 ⟨fits_split.2 ⟨⟨⟨⟨⟨hf'.1.1.1.1.1, by simp only [List.length_take]; omega⟩, hf'.1.1.1.2⟩, hf'.1.1.2⟩, hf'.1.2⟩, hf'.2⟩, items_split.2 ⟨⟨⟨⟨⟨ha'.1.1.1.1.1, ?_⟩, ha'.1.1.1.2⟩, ha'.1.1.2⟩, ha'.1.2⟩, ha'.2⟩⟩
    refine AllOk.at.2 fun i x hx => ?_
    simp only at hx
    rw [List.getElem?_take] at hx
    by_cases hik : i < k
    · rw [if_pos hik] at hx
      have h0 := AllOk.at.1 ha'.1.1.1.1.2 i x hx
      simp only [clsM] at h0 ⊢
      rw [List.take_take, Nat.min_eq_left (Nat.le_of_lt hik)]
      exact h0
    · rw [if_neg hik] at hx; cases hx
  refine ⟨h2, ?_⟩
  rw [check_len h, check_len h2, items_len, items_len]
  simp only [List.length_take]
  omega
end Go.Proofs.YtfnobccminhjpabGreat
