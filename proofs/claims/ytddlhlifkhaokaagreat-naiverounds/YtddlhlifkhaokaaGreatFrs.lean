/- Drawn regions by one relation: those whose parts make fresh memory; those with a chain of writes. -/
import Derived.Test.YtddlhlifkhaokaaGreatNvC
import Derived.Test.YtddlhlifkhaokaaGreatLast
import Derived.Test.YtddlhlifkhaokaaGreatInv9
namespace Go.Proofs.YtddlhlifkhaokaaGreat.Fa
open Go.RowKit Rg

/-- No slot twice, none of the base's. -/
def okD (ds : List (Option Nat)) (base : List (Nat × Value)) : Bool := (List.range ds.length).all fun i => match ds.getD i none with
  | none => true
  | some d => (List.range ds.length).all (fun j => decide (j = i) || !decide (ds.getD j none = some d)) && base.all fun p => !decide (p.1 = d)
theorem okD_at {ds : List (Option Nat)} {base : List (Nat × Value)} (h : okD ds base = true) {i d : Nat} (hi : ds.getD i none = some d) : (∀ j, ds.getD j none = some d → j = i) ∧ ∀ p ∈ base, p.1 ≠ d := by
  have hil : i < ds.length := by
    apply Classical.byContradiction
    intro hn
    rw [List.getD_eq_getElem?_getD, List.getElem?_eq_none (by omega)] at hi
    cases hi
  have h1 := List.all_eq_true.1 h i (List.mem_range.2 hil)
  rw [hi] at h1
  simp only [Bool.and_eq_true] at h1
  refine ⟨fun j hj => ?_, fun p hp e => ?_⟩
  · have hjl : j < ds.length := by
      apply Classical.byContradiction
      intro hn
      rw [List.getD_eq_getElem?_getD, List.getElem?_eq_none (by omega)] at hj
      cases hj
    have h2 := List.all_eq_true.1 h1.1 j (List.mem_range.2 hjl)
    simp only [Bool.or_eq_true, decide_eq_true_eq, Bool.not_eq_true', decide_eq_false_iff_not] at h2
    rcases h2 with h2 | h2
    · exact h2
    · exact absurd hj h2
  · have := List.all_eq_true.1 h1.2 p hp
    simp [e] at this
/-- Parts that make fresh memory, each between two marks: what is known of each one's value stays. -/
structure Jg (ds : List (Option Nat)) (base : List (Nat × Value)) (Pr : Nat → Value → World → Nat → Nat → Prop) (W0 : World) (L : Nat → Bool) (σ : Nat → Value) (W : World) : Prop where
  low : Below W0.heap.size W0 W
  base : ∀ p ∈ base, σ p.1 = p.2
  at_ : ∃ lo hi : Nat → Nat, (∀ i d, ds.getD i none = some d → L i = true → W0.heap.size ≤ lo i ∧ lo i ≤ hi i ∧ hi i ≤ W.heap.size ∧ Pr i (σ d) W (lo i) (hi i)) ∧
    ∀ i j d d', ds.getD i none = some d → ds.getD j none = some d' → i ≠ j → L i = true → L j = true → hi i ≤ lo j ∨ hi j ≤ lo i
section
variable {ds : List (Option Nat)} {base : List (Nat × Value)} {Pr : Nat → Value → World → Nat → Nat → Prop} {W0 W W' : World} {L : Nat → Bool} {σ : Nat → Value} {i d : Nat} {v : Value}
theorem Jg.get (h : Jg ds base Pr W0 L σ W) (hi : ds.getD i none = some d) (hL : L i = true) : ∃ lo hi, hi ≤ W.heap.size ∧ Pr i (σ d) W lo hi := by
  obtain ⟨lo, hi', h1, -⟩ := h.at_
  obtain ⟨-, -, h2, h3⟩ := h1 i d hi hL
  exact ⟨_, _, h2, h3⟩
theorem Jg.start : Jg ds base Pr W (fun _ => false) σ W ↔ ∀ p ∈ base, σ p.1 = p.2 :=
  ⟨fun h => h.base, fun h => ⟨Below.refl _ _, h, fun _ => 0, fun _ => 0, fun i d _ hL => (by cases hL), fun i j d d' _ _ _ hL => (by cases hL)⟩⟩
theorem Jg.put (h : Jg ds base Pr W0 L σ W) (hok : okD ds base = true) (hst : ∀ i v W W' lo hi, Pr i v W lo hi → hi ≤ W.heap.size → Below W.heap.size W W' → Pr i v W' lo hi) (hi : ds.getD i none = some d) (hb : Below W.heap.size W W') (hp : Pr i v W' W.heap.size W'.heap.size) : Jg ds base Pr W0 (more L i) (laid σ (some d) v) W' := by
  obtain ⟨h1, h2⟩ := okD_at hok hi
  obtain ⟨lo, hi', h3, h4⟩ := h.at_
  have hs := hb.size
  have ho : ∀ j d', ds.getD j none = some d' → d' ≠ d → more L i j = true → j ≠ i ∧ L j = true := fun j d' hj hd hL => by
    have hji : j ≠ i := fun e => by
      subst e
      rw [hi] at hj
      cases hj
      exact hd rfl
    exact ⟨hji, more_ne hL hji⟩
  refine ⟨h.low.trans (hb.mono h.low.size), fun p hp => ?_, fun j => if j = i then W.heap.size else lo j, fun j => if j = i then W'.heap.size else hi' j, fun j d' hj hL => ?_, fun j k d1 d2 hj hk hne hLj hLk => ?_⟩
  · rw [laid_ne (by intro e; cases e; exact h2 p hp rfl)]
    exact h.base p hp
  · by_cases hd : d' = d
    · subst hd
      have := h1 j hj
      subst this
      dsimp only
      rw [laid_eq, if_pos rfl, if_pos rfl]
      exact ⟨h.low.size, hs, Nat.le_refl _, hp⟩
    · obtain ⟨hji, hLj⟩ := ho j d' hj hd hL
      dsimp only
      rw [laid_ne (by intro e; cases e; exact hd rfl), if_neg hji, if_neg hji]
      obtain ⟨a1, a2, a3, a4⟩ := h3 j d' hj hLj
      exact ⟨a1, a2, by omega, hst _ _ _ _ _ _ a4 a3 hb⟩
  · dsimp only
    by_cases ej : j = i
    · subst ej
      have hki : k ≠ j := Ne.symm hne
      have hLk2 : L k = true := more_ne hLk hki
      obtain ⟨a1, a2, a3, a4⟩ := h3 k d2 hk hLk2
      rw [if_pos rfl, if_pos rfl, if_neg hki, if_neg hki]
      exact .inr a3
    · have hLj2 : L j = true := more_ne hLj ej
      obtain ⟨a1, a2, a3, a4⟩ := h3 j d1 hj hLj2
      by_cases ek : k = i
      · subst ek
        rw [if_neg ej, if_neg ej, if_pos rfl, if_pos rfl]
        exact .inl a3
      · rw [if_neg ej, if_neg ej, if_neg ek, if_neg ek]
        exact h4 j k d1 d2 hj hk hne hLj2 (more_ne hLk ek)
/-- All ahead of the last are done where the last is. -/
theorem all_done {ops : Array Oper} (hc : coverB .any ops = true) (hcl : Cl ops L) (hl : L (ops.size - 1) = true) : ∀ j, j < ops.size → L j = true := by
  have key : ∀ m j, ops.size - 1 - j ≤ m → j < ops.size → L j = true := by
    intro m
    induction m with
    | zero =>
      intro j h1 h2
      have : j = ops.size - 1 := by omega
      rw [this]; exact hl
    | succ m ih =>
      intro j h1 h2
      by_cases hj : j = ops.size - 1
      · rw [hj]; exact hl
      · have h3 := List.all_eq_true.1 hc j (List.mem_range.2 (by omega))
        obtain ⟨k, hk, h4⟩ := List.any_eq_true.1 h3
        have hks := List.mem_range.1 hk
        simp only [Bool.and_eq_true, decide_eq_true_eq] at h4
        obtain ⟨hjk, h5⟩ := h4
        have hok : ops[k]? = some ops[k] := by simp [hks]
        rw [hok] at h5
        simp only at h5
        obtain ⟨q, hq, h6⟩ := Array.any_eq_true.1 h5
        have he : ops[k].after[q] ∈ ops[k].after := Array.getElem_mem hq
        generalize ops[k].after[q] = e at h6 he
        simp only [Bool.and_eq_true, decide_eq_true_eq] at h6
        rw [← h6.1]
        exact hcl k _ hok (ih k (by omega) hks) e he h6.2
  intro j hj
  exact key _ j (Nat.le_refl _) hj
/-- Two phases: fresh memory, then a last write. -/
def Jl (m : Nat) (ds : List (Option Nat)) (base : List (Nat × Value)) (Pr : Nat → Value → World → Nat → Nat → Prop) (Fin : (Nat → Value) → World → Prop) (W0 : World) (L : Nat → Bool) (σ : Nat → Value) (W : World) : Prop :=
  (L m = false → Jg ds base Pr W0 L σ W) ∧ (L m = true → Fin σ W)
/-- A chain of writes: the values are known ahead, the world is what the writes done have made of it. -/
structure Jt (tab : List (Option (Nat × Value))) (base : List (Nat × Value)) (ws : (Nat → Bool) → World) (L : Nat → Bool) (σ : Nat → Value) (W : World) : Prop where
  base : ∀ p ∈ base, σ p.1 = p.2
  vals : ∀ i d v, tab.getD i none = some (d, v) → L i = true → σ d = v
  wd : W = ws L
theorem Jt.put {tab : List (Option (Nat × Value))} {ws : (Nat → Bool) → World} (h : Jt tab base ws L σ W) (hok : okD (tab.map fun p => p.map Prod.fst) base = true) (hi : tab.getD i none = some (d, v)) (hw : W' = ws (more L i)) : Jt tab base ws (more L i) (laid σ (some d) v) W' := by
  have conv : ∀ j d' v', tab.getD j none = some (d', v') → (tab.map fun p => p.map Prod.fst).getD j none = some d' := fun j d' v' hj => by
    rw [List.getD_eq_getElem?_getD] at hj ⊢
    rw [List.getElem?_map]
    cases ht : tab[j]? with
    | none => rw [ht] at hj; cases hj
    | some p =>
      rw [ht] at hj
      have : p = some (d', v') := hj
      rw [this]; rfl
  obtain ⟨h1, h2⟩ := okD_at hok (conv _ _ _ hi)
  refine ⟨fun p hp => ?_, fun j d' v' hj hL => ?_, hw⟩
  · rw [laid_ne (by intro e; cases e; exact h2 p hp rfl)]
    exact h.base p hp
  · by_cases hd : d' = d
    · subst hd
      have := h1 j (conv _ _ _ hj)
      subst this
      rw [hi] at hj
      cases hj
      exact laid_eq
    · rw [laid_ne (by intro e; cases e; exact hd rfl)]
      refine h.vals j d' v' hj (more_ne hL fun e => ?_)
      subst e
      rw [hi] at hj
      cases hj
      exact hd rfl
theorem Jt.last {tab : List (Option (Nat × Value))} {ws : (Nat → Bool) → World} (h : Jt tab base ws L σ W) (hi : tab.getD i none = none) (hw : W' = ws (more L i)) : Jt tab base ws (more L i) (laid σ none v) W' := by
  refine ⟨fun p hp => by rw [laid_ne (by simp)]; exact h.base p hp, fun j d' v' hj hL => ?_, hw⟩
  rw [laid_ne (by simp)]
  refine h.vals j d' v' hj (more_ne hL fun e => ?_)
  subst e
  rw [hi] at hj
  cases hj
end
/-- The world behind three writes, by what is done. -/
def ws3 (i1 i2 i3 : Nat) (w0 w1 w2 w3 : World) (L : Nat → Bool) : World := if L i3 then w3 else if L i2 then w2 else if L i1 then w1 else w0
end Go.Proofs.YtddlhlifkhaokaaGreat.Fa
/- What drawn regions that append ask for. -/
namespace Go.Proofs.YtddlhlifkhaokaaGreat.Fa
open Go.RowKit Rg

theorem cell_on {w w' : World} {a : Addr} {v : Value} (h : w.cell? a = some v) (hb : Below w.heap.size w w') : w'.cell? a = some v := (World.cell?_of_block (hb.block _ (World.block_lt_of_cell? w _ h))).trans h
theorem does_app {P : Program} {E : List PanicEntry → World → Prop} {ρ : Operand → Value} {o : Oper} {w w' : World} {R : Value → World → Prop} (s x : Operand) (t : TypeId) (ho : o.op = .call { callee := .builtin .append, args := #[s, x], argTypes := #[t, t] }) {v y u : Value} (hs : ρ s = v) (hx : ρ x = y) (hr : (Builtin.append_ #[t, t] o.type #[v, y]).run P w = .ok u w') (h : R u w') : Does P E ρ o w R := by
  unfold Does execOp
  simp only [ho, resolve, invoke, builtin, Sem.run_bind, Sem.run_pure, Result.andThen_ok, List.map_toArray, List.map_cons, List.map_nil, hs, hx, hr]
  exact h
section
variable {i1 i2 i3 i : Nat} {w0 w1 w2 w3 X : World} {L : Nat → Bool}
theorem ws3_off (h1 : i ≠ i1) (h2 : i ≠ i2) (h3 : i ≠ i3) : ws3 i1 i2 i3 w0 w1 w2 w3 (more L i) = ws3 i1 i2 i3 w0 w1 w2 w3 L := by
  unfold ws3
  rw [more_off (Ne.symm h1), more_off (Ne.symm h2), more_off (Ne.symm h3)]
theorem ws3_in (hX : X = ws3 i1 i2 i3 w0 w1 w2 w3 L) (h3 : L i3 = false) : X = w0 ∨ X = w1 ∨ X = w2 := by
  subst hX
  unfold ws3
  rw [h3]
  cases h2 : L i2 with
  | true => exact .inr (.inr rfl)
  | false =>
    cases h1 : L i1 with
    | true => exact .inr (.inl rfl)
    | false => exact .inl rfl
theorem ws3_0 (h1 : L i1 = false) (h2 : L i2 = false) (h3 : L i3 = false) : ws3 i1 i2 i3 w0 w1 w2 w3 L = w0 := by unfold ws3; rw [h1, h2, h3]; rfl
theorem ws3_1 (h1 : L i1 = true) (h2 : L i2 = false) (h3 : L i3 = false) : ws3 i1 i2 i3 w0 w1 w2 w3 L = w1 := by unfold ws3; rw [h1, h2, h3]; rfl
theorem ws3_2 (h2 : L i2 = true) (h3 : L i3 = false) : ws3 i1 i2 i3 w0 w1 w2 w3 L = w2 := by unfold ws3; rw [h2, h3]; rfl
theorem ws3_3 (h3 : L i3 = true) : ws3 i1 i2 i3 w0 w1 w2 w3 L = w3 := by unfold ws3; rw [h3]; rfl
theorem not_done {ops : Array Oper} {k : Nat} (hc : coverB .any ops = true) (hcl : Cl ops L) (hk : k < ops.size) (h : L k = false) : L (ops.size - 1) = false := by
  cases e : L (ops.size - 1) with
  | false => rfl
  | true => rw [all_done hc hcl e k hk] at h; cases h
end
end Go.Proofs.YtddlhlifkhaokaaGreat.Fa
/- No panic is borne. -/
namespace Go.Proofs.YtddlhlifkhaokaaGreat.Fa
def NoE (_ : List PanicEntry) (_ : World) : Prop := False
end Go.Proofs.YtddlhlifkhaokaaGreat.Fa
