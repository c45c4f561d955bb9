/- Drawn regions by one relation: those whose parts make fresh memory; those with a chain of writes. -/
import Derived.Test.YtcobmbclhhimjaaGreatFs1
import Derived.Test.YtcobmbclhhimjaaGreatInv9
import Derived.Deep.AppendLies
namespace Go.Proofs.YtcobmbclhhimjaaGreat.Fa
open Go.RowKit Rg

/-- No slot twice, none of the base's. -/
def okD (ds : List (Option Nat)) (base : List (Nat × Value)) : Bool := (List.range ds.length).all fun i => match ds.getD i none with
  | none => true
  | some d => (List.range ds.length).all (fun j => decide (j = i) || !decide (ds.getD j none = some d)) && base.all fun p => !decide (p.1 = d)
theorem okD_at {ds : List (Option Nat)} {base : List (Nat × Value)} (h : okD ds base = true) {i d : Nat} (hi : ds.getD i none = some d) : (∀ j, ds.getD j none = some d → j = i) ∧ ∀ p ∈ base, p.1 ≠ d := by
  have hil : i < ds.length := by
    apply Classical.byContradiction
    intro hn
    rw [List.getD_eq_getElem?_getD, List.getElem?_eq_none (by omega)] at hi
    cases hi
  have h1 := List.all_eq_true.1 h i (List.mem_range.2 hil)
  rw [hi] at h1
  simp only [Bool.and_eq_true] at h1
  refine ⟨fun j hj => ?_, fun p hp e => ?_⟩
  · have hjl : j < ds.length := by
      apply Classical.byContradiction
      intro hn
      rw [List.getD_eq_getElem?_getD, List.getElem?_eq_none (by omega)] at hj
      cases hj
    have h2 := List.all_eq_true.1 h1.1 j (List.mem_range.2 hjl)
    simp only [Bool.or_eq_true, decide_eq_true_eq, Bool.not_eq_true', decide_eq_false_iff_not] at h2
    rcases h2 with h2 | h2
    · exact h2
    · exact absurd hj h2
  · have := List.all_eq_true.1 h1.2 p hp
    simp [e] at this
/-- Parts that make fresh memory, each between two marks: what is known of each one's value stays. -/
structure Jg (ds : List (Option Nat)) (base : List (Nat × Value)) (Pr : Nat → Value → World → Nat → Nat → Prop) (W0 : World) (L : Nat → Bool) (σ : Nat → Value) (W : World) : Prop where
  low : Below W0.heap.size W0 W
  base : ∀ p ∈ base, σ p.1 = p.2
  at_ : ∃ lo hi : Nat → Nat, (∀ i d, ds.getD i none = some d → L i = true → W0.heap.size ≤ lo i ∧ lo i ≤ hi i ∧ hi i ≤ W.heap.size ∧ Pr i (σ d) W (lo i) (hi i)) ∧
    ∀ i j d d', ds.getD i none = some d → ds.getD j none = some d' → i ≠ j → L i = true → L j = true → hi i ≤ lo j ∨ hi j ≤ lo i
section
variable {ds : List (Option Nat)} {base : List (Nat × Value)} {Pr : Nat → Value → World → Nat → Nat → Prop} {W0 W W' : World} {L : Nat → Bool} {σ : Nat → Value} {i d : Nat} {v : Value}
theorem Jg.get (h : Jg ds base Pr W0 L σ W) (hi : ds.getD i none = some d) (hL : L i = true) : ∃ lo hi, hi ≤ W.heap.size ∧ Pr i (σ d) W lo hi := by
  obtain ⟨lo, hi', h1, -⟩ := h.at_
  obtain ⟨-, -, h2, h3⟩ := h1 i d hi hL
  exact ⟨_, _, h2, h3⟩
theorem Jg.start : Jg ds base Pr W (fun _ => false) σ W ↔ ∀ p ∈ base, σ p.1 = p.2 :=
  ⟨fun h => h.base, fun h => ⟨Below.refl _ _, h, fun _ => 0, fun _ => 0, fun i d _ hL => (by cases hL), fun i j d d' _ _ _ hL => (by cases hL)⟩⟩
theorem Jg.put (h : Jg ds base Pr W0 L σ W) (hok : okD ds base = true) (hst : ∀ i v W W' lo hi, Pr i v W lo hi → hi ≤ W.heap.size → Below W.heap.size W W' → Pr i v W' lo hi) (hi : ds.getD i none = some d) (hb : Below W.heap.size W W') (hp : Pr i v W' W.heap.size W'.heap.size) : Jg ds base Pr W0 (more L i) (laid σ (some d) v) W' := by
  obtain ⟨h1, h2⟩ := okD_at hok hi
  obtain ⟨lo, hi', h3, h4⟩ := h.at_
  have hs := hb.size
  have ho : ∀ j d', ds.getD j none = some d' → d' ≠ d → more L i j = true → j ≠ i ∧ L j = true := fun j d' hj hd hL => by
    have hji : j ≠ i := fun e => by
      subst e
      rw [hi] at hj
      cases hj
      exact hd rfl
    exact ⟨hji, more_ne hL hji⟩
  refine ⟨h.low.trans (hb.mono h.low.size), fun p hp => ?_, fun j => if j = i then W.heap.size else lo j, fun j => if j = i then W'.heap.size else hi' j, fun j d' hj hL => ?_, fun j k d1 d2 hj hk hne hLj hLk => ?_⟩
  · rw [laid_ne (by intro e; cases e; exact h2 p hp rfl)]
    exact h.base p hp
  · by_cases hd : d' = d
    · subst hd
      have := h1 j hj
      subst this
      dsimp only
      rw [laid_eq, if_pos rfl, if_pos rfl]
      exact ⟨h.low.size, hs, Nat.le_refl _, hp⟩
    · obtain ⟨hji, hLj⟩ := ho j d' hj hd hL
      dsimp only
      rw [laid_ne (by intro e; cases e; exact hd rfl), if_neg hji, if_neg hji]
      obtain ⟨a1, a2, a3, a4⟩ := h3 j d' hj hLj
      exact ⟨a1, a2, by omega, hst _ _ _ _ _ _ a4 a3 hb⟩
  · dsimp only
    by_cases ej : j = i
    · subst ej
      have hki : k ≠ j := Ne.symm hne
      have hLk2 : L k = true := more_ne hLk hki
      obtain ⟨a1, a2, a3, a4⟩ := h3 k d2 hk hLk2
      rw [if_pos rfl, if_pos rfl, if_neg hki, if_neg hki]
      exact .inr a3
    · have hLj2 : L j = true := more_ne hLj ej
      obtain ⟨a1, a2, a3, a4⟩ := h3 j d1 hj hLj2
      by_cases ek : k = i
      · subst ek
        rw [if_neg ej, if_neg ej, if_pos rfl, if_pos rfl]
        exact .inl a3
      · rw [if_neg ej, if_neg ej, if_neg ek, if_neg ek]
        exact h4 j k d1 d2 hj hk hne hLj2 (more_ne hLk ek)
/-- All ahead of the last are done where the last is. -/
theorem all_done {ops : Array Oper} (hc : coverB .any ops = true) (hcl : Cl ops L) (hl : L (ops.size - 1) = true) : ∀ j, j < ops.size → L j = true := by
  have key : ∀ m j, ops.size - 1 - j ≤ m → j < ops.size → L j = true := by
    intro m
    induction m with
    | zero =>
      intro j h1 h2
      have : j = ops.size - 1 := by omega
      rw [this]; exact hl
    | succ m ih =>
      intro j h1 h2
      by_cases hj : j = ops.size - 1
      · rw [hj]; exact hl
      · have h3 := List.all_eq_true.1 hc j (List.mem_range.2 (by omega))
        obtain ⟨k, hk, h4⟩ := List.any_eq_true.1 h3
        have hks := List.mem_range.1 hk
        simp only [Bool.and_eq_true, decide_eq_true_eq] at h4
        obtain ⟨hjk, h5⟩ := h4
        have hok : ops[k]? = some ops[k] := by simp [hks]
        rw [hok] at h5
        simp only at h5
        obtain ⟨q, hq, h6⟩ := Array.any_eq_true.1 h5
        have he : ops[k].after[q] ∈ ops[k].after := Array.getElem_mem hq
        generalize ops[k].after[q] = e at h6 he
        simp only [Bool.and_eq_true, decide_eq_true_eq] at h6
        rw [← h6.1]
        exact hcl k _ hok (ih k (by omega) hks) e he h6.2
  intro j hj
  exact key _ j (Nat.le_refl _) hj
/-- Two phases: fresh memory, then a last write. -/
def Jl (m : Nat) (ds : List (Option Nat)) (base : List (Nat × Value)) (Pr : Nat → Value → World → Nat → Nat → Prop) (Fin : (Nat → Value) → World → Prop) (W0 : World) (L : Nat → Bool) (σ : Nat → Value) (W : World) : Prop :=
  (L m = false → Jg ds base Pr W0 L σ W) ∧ (L m = true → Fin σ W)
/-- A chain of writes: the values are known ahead, the world is what the writes done have made of it. -/
structure Jt (tab : List (Option (Nat × Value))) (base : List (Nat × Value)) (ws : (Nat → Bool) → World) (L : Nat → Bool) (σ : Nat → Value) (W : World) : Prop where
  base : ∀ p ∈ base, σ p.1 = p.2
  vals : ∀ i d v, tab.getD i none = some (d, v) → L i = true → σ d = v
  wd : W = ws L
theorem Jt.put {tab : List (Option (Nat × Value))} {ws : (Nat → Bool) → World} (h : Jt tab base ws L σ W) (hok : okD (tab.map fun p => p.map Prod.fst) base = true) (hi : tab.getD i none = some (d, v)) (hw : W' = ws (more L i)) : Jt tab base ws (more L i) (laid σ (some d) v) W' := by
  have conv : ∀ j d' v', tab.getD j none = some (d', v') → (tab.map fun p => p.map Prod.fst).getD j none = some d' := fun j d' v' hj => by
    rw [List.getD_eq_getElem?_getD] at hj ⊢
    rw [List.getElem?_map]
    cases ht : tab[j]? with
    | none => rw [ht] at hj; cases hj
    | some p =>
      rw [ht] at hj
      have : p = some (d', v') := hj
      rw [this]; rfl
  obtain ⟨h1, h2⟩ := okD_at hok (conv _ _ _ hi)
  refine ⟨fun p hp => ?_, fun j d' v' hj hL => ?_, hw⟩
  · rw [laid_ne (by intro e; cases e; exact h2 p hp rfl)]
    exact h.base p hp
  · by_cases hd : d' = d
    · subst hd
      have := h1 j (conv _ _ _ hj)
      subst this
      rw [hi] at hj
      cases hj
      exact laid_eq
    · rw [laid_ne (by intro e; cases e; exact hd rfl)]
      refine h.vals j d' v' hj (more_ne hL fun e => ?_)
      subst e
      rw [hi] at hj
      cases hj
      exact hd rfl
theorem Jt.last {tab : List (Option (Nat × Value))} {ws : (Nat → Bool) → World} (h : Jt tab base ws L σ W) (hi : tab.getD i none = none) (hw : W' = ws (more L i)) : Jt tab base ws (more L i) (laid σ none v) W' := by
  refine ⟨fun p hp => by rw [laid_ne (by simp)]; exact h.base p hp, fun j d' v' hj hL => ?_, hw⟩
  rw [laid_ne (by simp)]
  refine h.vals j d' v' hj (more_ne hL fun e => ?_)
  subst e
  rw [hi] at hj
  cases hj
end
/-- The world behind three writes, by what is done. -/
def ws3 (i1 i2 i3 : Nat) (w0 w1 w2 w3 : World) (L : Nat → Bool) : World := if L i3 then w3 else if L i2 then w2 else if L i1 then w1 else w0
end Go.Proofs.YtcobmbclhhimjaaGreat.Fa
/- Three rows of rows, each row its own. -/
namespace Go.Proofs.YtcobmbclhhimjaaGreat.Fa
open Go.RowKit Rg

def up {α : Type} (f : Nat → α) (c : Nat) (y : α) : Nat → α := fun d => if d = c then y else f d
theorem up_at {α : Type} {f : Nat → α} {c : Nat} {y : α} : up f c y c = y := if_pos rfl
theorem up_off {α : Type} {f : Nat → α} {c d : Nat} {y : α} (h : d ≠ c) : up f c y d = f d := if_neg h
/-- Three rows of rows, each row its own. -/
structure H3 (base : Nat) (sb : Nat → Nat) (n : Nat) (H : Nat → List (List Int)) (vs : Nat → List Value) (w : World) : Prop where
  ln : ∀ c, c < 3 → (H c).length = n
  vl : ∀ c, c < 3 → (vs c).length = n
  fx : ∀ c, c < 3 → Fx (sb c) 26 (vs c) w
  lo : ∀ c, c < 3 → base ≤ sb c
  ne : ∀ c d, c < 3 → d < 3 → c ≠ d → sb c ≠ sb d
  own : ∀ c (i : Nat) l v, c < 3 → (H c)[i]? = some l → (vs c)[i]? = some v → w.ownsRow base 3 1 v l.length (ints l)
  apart : ∀ c d (i j : Nat) v u g, c < 3 → d < 3 → (vs c)[i]? = some v → (vs d)[j]? = some u → v.ownBlock = some g → u.ownBlock = some g → c = d ∧ i = j
section
variable {base n : Nat} {sb : Nat → Nat} {H : Nat → List (List Int)} {vs : Nat → List Value} {w w' : World}
theorem H3.go (h : H3 base sb n H vs w) (hb : Below w.heap.size w w') : H3 base sb n H vs w' :=
  ⟨h.ln, h.vl, fun c hc => (h.fx c hc).keep (hb.block _ (h.fx c hc).lt), h.lo, h.ne, fun c i l v hc h1 h2 => owns_keep (h.own c i l v hc h1 h2) fun g hg => hb.block g (owns_lt (h.own c i l v hc h1 h2) hg), h.apart⟩
theorem H3.set (h : H3 base sb n H vs w) {g T i : Nat} {cs : List Value} {v : Value} (hg : Fx g T cs w) (h1 : T ≠ 26) (h2 : T ≠ 3) : H3 base sb n H vs (w.setCell ⟨g, i, none⟩ v) :=
  ⟨h.ln, h.vl, fun c hc => (h.fx c hc).keep (other_set (fx_ne (h.fx c hc) hg (Ne.symm h1))), h.lo, h.ne, fun c i l v hc a b => owns_keep (h.own c i l v hc a b) fun _ hk => other_set fun e => own_fx (h.own c i l v hc a b) hg (Ne.symm h2) (e ▸ hk), h.apart⟩
theorem H3.at (h : H3 base sb n H vs w) {c i : Nat} (hc : c < 3) (hi : i < n) : ∃ l a k, (H c)[i]? = some l ∧ (vs c)[i]? = some (.slice a l.length k) ∧ w.cell? ⟨sb c, i, none⟩ = some (.slice a l.length k) ∧ w.ownsRow base 3 1 (.slice a l.length k) l.length (ints l) := by
  obtain ⟨l, h1⟩ := get_at (l := H c) (i := i) (by rw [h.ln c hc]; exact hi)
  obtain ⟨v, h2⟩ := get_at (l := vs c) (i := i) (by rw [h.vl c hc]; exact hi)
  have ho := h.own c i _ _ hc h1 h2
  obtain ⟨a, k, e⟩ := owns_slice ho
  rw [e] at ho h2
  exact ⟨l, a, k, h1, h2, (h.fx c hc).get h2, ho⟩
theorem H3.add (h : H3 base sb n H vs w) {c i : Nat} (hc : c < 3) {l : List Int} {v : Value} (hi : (H c)[i]? = some l) (hv : (vs c)[i]? = some v) {x : Int} {g4 cap4 : Nat} (hnew : w'.ownsRow base 3 1 (.slice (some ⟨g4, 0, none⟩) (l.length + 1) cap4) (l.length + 1) (ints l ++ [.int .i64 x]))
    (hold : ∀ k, k < w.heap.size → v.ownBlock ≠ some k → w'.heap[k]? = w.heap[k]?) (hg : v.ownBlock = some g4 ∨ w.heap.size ≤ g4) :
    H3 base sb n (up H c ((H c).set i (l ++ [x]))) (up vs c ((vs c).set i (.slice (some ⟨g4, 0, none⟩) (l.length + 1) cap4))) (w'.setCell ⟨sb c, i, none⟩ (.slice (some ⟨g4, 0, none⟩) (l.length + 1) cap4)) := by
  have hov := h.own c i l v hc hi hv
  have hil : i < n := by rw [← h.ln c hc]; exact (List.getElem?_eq_some_iff.1 hi).1
  have hfx : ∀ d, d < 3 → Fx (sb d) 26 (vs d) w' := fun d hd => (h.fx d hd).keep (hold _ (h.fx d hd).lt (own_fx hov (h.fx d hd) (by decide)))
  have key : ∀ (d j : Nat) (u : Value) (q : Nat), d < 3 → ¬ (d = c ∧ j = i) → (vs d)[j]? = some u → u.ownBlock = some q → q ≠ g4 := by
    intro d j u q hd hne hu hq e
    subst e
    have hm : j < (H d).length := by rw [h.ln d hd, ← h.vl d hd]; exact (List.getElem?_eq_some_iff.1 hu).1
    have ho := h.own d j _ u hd (List.getElem?_eq_getElem hm) hu
    rcases hg with hg | hg
    · exact hne (h.apart d c j i u v _ hd hc hu hv hq hg)
    · have := owns_lt ho hq; omega
  refine ⟨fun d hd => ?_, fun d hd => ?_, fun d hd => ?_, h.lo, h.ne, fun d j l2 u hd h1 h2 => ?_, fun d e j k a b g hd he h1 h2 h3 h4 => ?_⟩
  · by_cases e : d = c
    · subst e; rw [up_at, List.length_set]; exact h.ln d hd
    · rw [up_off e]; exact h.ln d hd
  · by_cases e : d = c
    · subst e; rw [up_at, List.length_set]; exact h.vl d hd
    · rw [up_off e]; exact h.vl d hd
  · by_cases e : d = c
    · subst e; rw [up_at]; exact (hfx d hd).set i _
    · rw [up_off e]; exact (hfx d hd).keep (other_set (h.ne d c hd hc e))
  · have old : ∀ (hne : ¬ (d = c ∧ j = i)), (H d)[j]? = some l2 → (vs d)[j]? = some u → (w'.setCell ⟨sb c, i, none⟩ (.slice (some ⟨g4, 0, none⟩) (l.length + 1) cap4)).ownsRow base 3 1 u l2.length (ints l2) := fun hne a b => by
      have ho := h.own d j l2 u hd a b
      refine owns_keep ho fun g hgu => ?_
      rw [other_set fun (e2 : g = sb c) => own_fx ho (h.fx c hc) (by decide) (e2 ▸ hgu)]
      exact hold g (owns_lt ho hgu) fun e2 => hne (h.apart d c j i u v g hd hc b hv hgu e2)
    by_cases e : d = c
    · subst e
      rw [up_at] at h1 h2
      by_cases e2 : i = j
      · subst e2
        rw [List.getElem?_set_self (by rw [h.ln d hd]; exact hil)] at h1
        rw [List.getElem?_set_self (by rw [h.vl d hd]; exact hil)] at h2
        cases h1
        cases h2
        rw [List.length_append, ints_snoc]
        exact owns_keep hnew fun g e => other_set fun e2 => own_fx hnew (hfx d hd) (by decide) (e2 ▸ e)
      · rw [List.getElem?_set_ne e2] at h1 h2
        exact old (fun x => e2 x.2.symm) h1 h2
    · rw [up_off e] at h1 h2
      exact old (fun x => e x.1) h1 h2
  · have split : ∀ (d j : Nat) (a : Value), (up vs c ((vs c).set i (.slice (some ⟨g4, 0, none⟩) (l.length + 1) cap4)) d)[j]? = some a → (d = c ∧ j = i ∧ a = .slice (some ⟨g4, 0, none⟩) (l.length + 1) cap4) ∨ (¬ (d = c ∧ j = i) ∧ (vs d)[j]? = some a) := by
      intro d j a ha
      by_cases e1 : d = c
      · subst e1
        rw [up_at] at ha
        by_cases e2 : i = j
        · subst e2
          rw [List.getElem?_set_self (by rw [h.vl d hc]; exact hil)] at ha
          exact .inl ⟨rfl, rfl, by cases ha; rfl⟩
        · rw [List.getElem?_set_ne e2] at ha
          exact .inr ⟨fun x => e2 x.2.symm, ha⟩
      · rw [up_off e1] at ha
        exact .inr ⟨fun x => e1 x.1, ha⟩
    rcases split d j a h1 with ⟨a1, a2, a3⟩ | ⟨a1, a2⟩
    · rcases split e k b h2 with ⟨b1, b2, b3⟩ | ⟨b1, b2⟩
      · exact ⟨a1.trans b1.symm, a2.trans b2.symm⟩
      · subst a3
        have : g4 = g := by simpa [Value.ownBlock] using h3
        exact absurd this.symm (key e k b g he b1 b2 h4)
    · rcases split e k b h2 with ⟨b1, b2, b3⟩ | ⟨b1, b2⟩
      · subst b3
        have : g4 = g := by simpa [Value.ownBlock] using h4
        exact absurd this.symm (key d j a g hd a1 a2 h3)
      · exact h.apart d e j k a b g hd he a2 b2 h3 h4
theorem H3.lists (h : H3 base sb n H vs w) {c : Nat} (hc : c < 3) (hn : n ≤ 4096) (hl : ∀ l ∈ H c, l.length ≤ 4096) : Lists w.heap.size w (H c) (.slice (some ⟨sb c, 0, none⟩) n n) := by
  refine ⟨_, n, by rw [h.ln c hc], by rw [h.ln c hc]; omega, by rw [h.ln c hc]; omega, fun i x hi => ?_⟩
  have hin : i < n := by rw [← h.ln c hc]; exact (List.getElem?_eq_some_iff.1 hi).1
  obtain ⟨l, a, k, h1, h2, h3, h4⟩ := h.at hc hin
  rw [hi] at h1
  cases h1
  refine ⟨sb c, 0, [.slice a x.length k], rfl, (h.fx c hc).lt, rfl, fun j u hu => ?_, _, rfl, a, k, rfl, ?_, ?_, fun j y hj => ?_⟩
  · cases j with
    | zero =>
      simp at hu
      subst hu
      rw [Nat.zero_add, Nat.mul_one]
      exact h3
    | succ j => simp at hu
  · rcases h4.2 with ⟨_, e⟩ | ⟨g, cap, cur, e, _, _, hle, _⟩
    · omega
    · cases e; exact hle
  · have := hl x (List.mem_of_getElem? hi); omega
  · obtain ⟨g, cap, e, hcell, -, -⟩ := owns_at (owns_down h4 (Nat.zero_le _)) (x := .int .i64 y) (i := j) (by unfold ints; rw [List.getElem?_map, hj]; rfl)
    cases e
    refine ⟨g, 0, [.int .i64 y], rfl, owns_lt h4 rfl, rfl, fun j2 u hu => ?_, rfl⟩
    cases j2 with
    | zero =>
      simp at hu
      subst hu
      rw [Nat.zero_add, Nat.mul_one]
      exact hcell
    | succ j2 => simp at hu
end
/-- As lists that stay. -/
theorem H3.ll {base n : Nat} {sb : Nat → Nat} {H : Nat → List (List Int)} {vs : Nat → List Value} {w : World} (h : H3 base sb n H vs w) {c : Nat} (hc : c < 3) {S : Nat → Prop} {L : Int → List Int} (hL : ∀ z : Nat, z < n → (H c).getD z [] = L z) (hS : ∀ k, base ≤ k → k < w.heap.size → S k) : LL S L n (sb c) w := by
  refine ⟨hS _ (h.lo c hc) (h.fx c hc).lt, vs c, h.fx c hc, h.vl c hc, fun i hi => ?_⟩
  obtain ⟨l, a, k, h1, h2, -, h4⟩ := h.at hc hi
  have e : l = L i := by
    have := hL i hi
    rw [List.getD_eq_getElem?_getD, h1] at this
    exact this
  subst e
  refine ⟨a, k, h2, owns_at1 h4, fun g o e2 _ => ?_⟩
  have hlt := h4.lt g (by rw [e2]; rfl)
  exact hS g hlt.1 hlt.2
theorem cell_on {w w' : World} {a : Addr} {v : Value} (h : w.cell? a = some v) (hb : Below w.heap.size w w') : w'.cell? a = some v := (World.cell?_of_block (hb.block _ (World.block_lt_of_cell? w _ h))).trans h
theorem does_app {P : Program} {E : List PanicEntry → World → Prop} {ρ : Operand → Value} {o : Oper} {w w' : World} {R : Value → World → Prop} (s x : Operand) (t : TypeId) (ho : o.op = .call { callee := .builtin .append, args := #[s, x], argTypes := #[t, t] }) {v y u : Value} (hs : ρ s = v) (hx : ρ x = y) (hr : (Builtin.append_ #[t, t] o.type #[v, y]).run P w = .ok u w') (h : R u w') : Does P E ρ o w R := by
  unfold Does execOp
  simp only [ho, resolve, invoke, builtin, Sem.run_bind, Sem.run_pure, Result.andThen_ok, List.map_toArray, List.map_cons, List.map_nil, hs, hx, hr]
  exact h
section
variable {i1 i2 i3 i : Nat} {w0 w1 w2 w3 X : World} {L : Nat → Bool}
theorem ws3_off (h1 : i ≠ i1) (h2 : i ≠ i2) (h3 : i ≠ i3) : ws3 i1 i2 i3 w0 w1 w2 w3 (more L i) = ws3 i1 i2 i3 w0 w1 w2 w3 L := by
  unfold ws3
  rw [more_off (Ne.symm h1), more_off (Ne.symm h2), more_off (Ne.symm h3)]
theorem ws3_in (hX : X = ws3 i1 i2 i3 w0 w1 w2 w3 L) (h3 : L i3 = false) : X = w0 ∨ X = w1 ∨ X = w2 := by
  subst hX
  unfold ws3
  rw [h3]
  cases h2 : L i2 with
  | true => exact .inr (.inr rfl)
  | false =>
    cases h1 : L i1 with
    | true => exact .inr (.inl rfl)
    | false => exact .inl rfl
theorem ws3_0 (h1 : L i1 = false) (h2 : L i2 = false) (h3 : L i3 = false) : ws3 i1 i2 i3 w0 w1 w2 w3 L = w0 := by unfold ws3; rw [h1, h2, h3]; rfl
theorem ws3_1 (h1 : L i1 = true) (h2 : L i2 = false) (h3 : L i3 = false) : ws3 i1 i2 i3 w0 w1 w2 w3 L = w1 := by unfold ws3; rw [h1, h2, h3]; rfl
theorem ws3_2 (h2 : L i2 = true) (h3 : L i3 = false) : ws3 i1 i2 i3 w0 w1 w2 w3 L = w2 := by unfold ws3; rw [h2, h3]; rfl
theorem ws3_3 (h3 : L i3 = true) : ws3 i1 i2 i3 w0 w1 w2 w3 L = w3 := by unfold ws3; rw [h3]; rfl
theorem not_done {ops : Array Oper} {k : Nat} (hc : coverB .any ops = true) (hcl : Cl ops L) (hk : k < ops.size) (h : L k = false) : L (ops.size - 1) = false := by
  cases e : L (ops.size - 1) with
  | false => rfl
  | true => rw [all_done hc hcl e k hk] at h; cases h
end
end Go.Proofs.YtcobmbclhhimjaaGreat.Fa
