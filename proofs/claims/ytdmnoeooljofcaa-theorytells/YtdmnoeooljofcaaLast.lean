/- A region whose order is drawn, whose last operation waits for all others: the others by one quiet walk, then the last, which may panic or write. -/
import Derived.Deep.QuietTactic
import Derived.BigQuiet
import Derived.WalkKit
namespace Go.Proofs.Ytdmnoeooljofcaa
open Go Go.RowKit

section
variable {P : Program} {md : Region.Mode} {C : World → Prop}
/-- Nothing in the last one's place. -/
def hush (o : Oper) : Oper := { o with op := .move (.const undef), dst := none }
def plainB (ops : List Oper) : Bool := (match ops.getLast? with | some o => o.guard.isNone | none => false) && ops.all fun o => match o.guard with
  | none => true
  | some (g, _) => decide (g + 1 < ops.length)
/-- Each but the last is waited for by a later one. -/
def coverB (md : Region.Mode) (ops : Array Oper) : Bool := (List.range (ops.size - 1)).all fun j => (List.range ops.size).any fun k => decide (j < k) && match ops[k]? with
  | some o => o.after.any fun e => decide (e.on = j) && Region.binds md e
  | none => false

def Closed (md : Region.Mode) (ops : Array Oper) (listed : Array Bool) : Prop := ∀ (j : Nat) (o : Oper), ops[j]? = some o → listed.getD j false = true → ∀ e ∈ o.after, Region.binds md e = true → listed.getD e.on false = true

theorem getD_setIn {α : Type} (a : Array α) (i : Nat) (v d : α) (h : i < a.size) : (a.setIfInBounds i v).getD i d = v := by simp [h]
theorem getD_setOff {α : Type} (a : Array α) (i j : Nat) (v d : α) (h : i ≠ j) : (a.setIfInBounds i v).getD j d = a.getD j d := by
  simp only [Array.getD_eq_getD_getElem?]
  rw [Array.getElem?_setIfInBounds_ne h]
theorem getD_set_le {a : Array Bool} {i j : Nat} (h : a.getD j false = true) : (a.setIfInBounds i true).getD j false = true := by
  by_cases e : i = j
  · subst e
    by_cases hl : i < a.size
    · exact getD_setIn _ _ _ _ hl
    · simp [hl] at h
  · rw [getD_setOff _ _ _ _ _ e]; exact h

theorem closed_set {ops : Array Oper} {listed : Array Bool} {i : Nat} (h : Closed md ops listed) (hr : i ∈ Region.ready md ops listed) : Closed md ops (listed.setIfInBounds i true) := by
  obtain ⟨_, o, ho, hall⟩ := mem_ready.1 hr
  intro j oj hj hl e he hb
  by_cases hji : i = j
  · subst hji
    rw [ho] at hj
    cases hj
    exact getD_set_le (hall e he hb)
  · rw [getD_setOff _ _ _ _ _ hji] at hl
    exact getD_set_le (h j oj hj hl e he hb)

/-- When the last is ready, all others are done. -/
theorem last_ready {ops : Array Oper} {listed : Array Bool} (hc : coverB md ops = true) (h : Closed md ops listed) (hr : ops.size - 1 ∈ Region.ready md ops listed) : ∀ j, j < ops.size - 1 → listed.getD j false = true := by
  obtain ⟨_, o, ho, hall⟩ := mem_ready.1 hr
  have key : ∀ n j, ops.size - 1 - j ≤ n → j < ops.size - 1 → listed.getD j false = true := by
    intro n
    induction n with
    | zero => intro j h1 h2; omega
    | succ n ih =>
      intro j h1 h2
      have h3 := List.all_eq_true.1 hc j (List.mem_range.2 h2)
      obtain ⟨k, hk, h4⟩ := List.any_eq_true.1 h3
      have hks := List.mem_range.1 hk
      simp only [Bool.and_eq_true, decide_eq_true_eq] at h4
      obtain ⟨hjk, h5⟩ := h4
      have hok : ops[k]? = some ops[k] := by simp [hks]
      rw [hok] at h5
      simp only at h5
      obtain ⟨q, hq, h6⟩ := Array.any_eq_true.1 h5
      have he : ops[k].after[q] ∈ ops[k].after := Array.getElem_mem hq
      generalize ops[k].after[q] = e at h6 he
      simp only [Bool.and_eq_true, decide_eq_true_eq] at h6
      by_cases hkl : k = ops.size - 1
      · subst hkl
        rw [hok] at ho
        cases ho
        rw [← h6.1]
        exact hall e he h6.2
      · rw [← h6.1]
        exact h k _ hok (ih k (by omega) (by omega)) e he h6.2
  intro j hj
  exact key _ j (Nat.le_refl _) hj

theorem ready_same {l : List Oper} {o : Oper} {listed : Array Bool} : Region.ready md (l ++ [hush o]).toArray listed = Region.ready md (l ++ [o]).toArray listed := by
  unfold Region.ready
  simp only [List.size_toArray, List.length_append, List.length_cons, List.length_nil]
  refine List.filter_congr fun j _ => ?_
  by_cases hj : j < l.length
  · simp [List.getElem?_append_left hj]
  · by_cases hj2 : j = l.length
    · subst hj2; simp [hush]
    · simp [List.getElem?_append_right (show l.length ≤ j by omega), List.getElem?_eq_none (show [hush o].length ≤ j - l.length by simp; omega), List.getElem?_eq_none (show [o].length ≤ j - l.length by simp; omega)]

theorem plain_last {l : List Oper} {o : Oper} (h : plainB (l ++ [o]) = true) : o.guard = none := by
  unfold plainB at h
  simp only [Bool.and_eq_true, List.getLast?_append, List.getLast?_singleton, Option.some_or] at h
  simpa using h.1
theorem plain_at {l : List Oper} {o : Oper} (h : plainB (l ++ [o]) = true) {x : Oper} (hx : x ∈ l ++ [o]) : ∀ g b, x.guard = some (g, b) → g < l.length := by
  intro g b hg
  unfold plainB at h
  simp only [Bool.and_eq_true] at h
  have := List.all_eq_true.1 h.2 x hx
  rw [hg] at this
  simp at this
  omega
theorem wanted_same {l : List Oper} {o : Oper} {x : Oper} {t : Array Value} (h : ∀ g b, x.guard = some (g, b) → g < l.length) : Region.wanted x (yielded (l ++ [hush o]).toArray t) = Region.wanted x (yielded (l ++ [o]).toArray t) := by
  unfold Region.wanted
  cases hg : x.guard with
  | none => rfl
  | some p =>
    obtain ⟨g, b⟩ := p
    have hl := h g b hg
    show (yielded _ t g == some b) = (yielded _ t g == some b)
    unfold yielded
    simp only [List.getElem?_toArray, List.getElem?_append_left hl]
theorem wanted_none {x : Oper} {y : Nat → Option Bool} (h : x.guard = none) : Region.wanted x y = true := by unfold Region.wanted; rw [h]

/-- Each waits for earlier ones alone. -/
def backB (md : Region.Mode) (ops : Array Oper) : Bool := (List.range ops.size).all fun j => match ops[j]? with
  | some o => o.after.all fun e => !(Region.binds md e) || decide (e.on < j)
  | none => true
theorem ready_some {ops : Array Oper} {listed : Array Bool} (hb : backB md ops = true) (hsz : listed.size = ops.size) : ∀ i, i < ops.size → listed.getD i true = false → Region.ready md ops listed ≠ [] := by
  intro i
  induction i using Nat.strongRecOn with
  | _ i ih =>
    intro hi hl hn
    have ho : ops[i]? = some ops[i] := by simp [hi]
    have h1 := List.all_eq_true.1 hb i (List.mem_range.2 hi)
    rw [ho] at h1
    simp only at h1
    have hr : i ∈ Region.ready md ops listed := mem_ready.2 ⟨hl, ops[i], ho, fun e he hbe => by
      have h2 := Array.all_eq_true_iff_forall_mem.1 h1 e he
      simp only [hbe, Bool.not_true, Bool.false_or, decide_eq_true_eq] at h2
      apply Classical.byContradiction
      intro hne
      have hlt : e.on < ops.size := by omega
      exact ih e.on h2 hlt (by simp [hsz, hlt] at hne ⊢; exact hne) hn⟩
    rw [hn] at hr
    cases hr
theorem ready_none {ops : Array Oper} {listed : Array Bool} (h : ∀ j, j < ops.size → listed.getD j false = true) : Region.ready md ops listed = [] := by
  refine List.eq_nil_iff_forall_not_mem.2 fun i hi => ?_
  obtain ⟨h1, o, ho, _⟩ := mem_ready.1 hi
  have hlt := (Array.getElem?_eq_some_iff.1 ho).1
  have h2 := h i hlt
  by_cases hs : i < listed.size
  · simp [hs] at h1 h2
    rw [h1] at h2
    cases h2
  · simp [hs] at h1

theorem wpAny_last {Q : Exit → Act → World → Prop} {l : List Oper} {o : Oper} (hp : plainB (l ++ [o]) = true) (hc : coverB md (l ++ [o]).toArray = true) (hk : backB md (l ++ [o]).toArray = true) :
    ∀ (fuel : Nat) (listed : Array Bool) (a : Act) (w : World), C w → listed.size = l.length + 1 → Closed md (l ++ [o]).toArray listed → listed.getD l.length true = false →
      wpAnyQ P md (l ++ [hush o]).toArray C (fun a' => ∀ w', C w' → wpList P #[o] Q [o] a' w') fuel listed a → wpAny P md (l ++ [o]).toArray Q fuel listed a w := by
  have hsz : (l ++ [o]).toArray.size = l.length + 1 := by simp
  have hlast : (l ++ [o]).toArray.size - 1 = l.length := by rw [hsz]; rfl
  intro fuel
  induction fuel with
  | zero =>
    intro listed a w hC hs hcl hun h
    rw [wpAnyQ, ready_same] at h
    exact absurd h.1 (ready_some hk (by rw [hs, hsz]) l.length (by rw [hsz]; omega) hun)
  | succ fuel ih =>
    intro listed a w hC hs hcl hun h
    rw [wpAnyQ, ready_same] at h
    refine ⟨fun h0 => absurd h0 (ready_some hk (by rw [hs, hsz]) l.length (by rw [hsz]; omega) hun), fun i hi => ?_⟩
    have hq := h.2 i hi
    obtain ⟨hui, x, hx, _⟩ := mem_ready.1 hi
    have hil : i < l.length + 1 := by rw [← hsz]; exact (Array.getElem?_eq_some_iff.1 hx).1
    unfold wpOp
    simp only [hx]
    unfold qOp at hq
    by_cases hiL : i = l.length
    · subst hiL
      have hxo : x = o := by simpa using hx.symm
      subst hxo
      have hg : x.guard = none := plain_last hp
      rw [if_pos (wanted_none hg)]
      have hx' : (l ++ [hush x]).toArray[l.length]? = some (hush x) := by simp
      simp only [hx'] at hq
      rw [if_pos (wanted_none (show (hush x).guard = none from hg))] at hq
      obtain ⟨v, _, hK⟩ := hq
      have ha : a.put (hush x).dst v = a := rfl
      rw [ha] at hK
      have hr0 : Region.ready md (l ++ [x]).toArray (listed.setIfInBounds l.length true) = [] := by
        refine ready_none fun j hj => ?_
        rw [hsz] at hj
        by_cases hjl : j = l.length
        · subst hjl; exact getD_setIn _ _ _ _ (by omega)
        · exact getD_set_le (last_ready hc hcl (by rw [hlast]; exact hi) j (by rw [hlast]; omega))
      have hQ : ∀ w', C w' → wpList P #[x] Q [x] a w' := by
        cases fuel with
        | zero => exact hK.2
        | succ fuel => exact hK.1 (by rw [ready_same]; exact hr0)
      have hz := hQ w hC
      unfold wpList at hz
      rw [if_pos (wanted_none hg)] at hz
      refine hz.imp (Oper.wp_mono (fun a'' w'' hn => ?_)) id
      have hn : Q .normal a'' w'' := hn
      cases fuel with
      | zero => exact ⟨hr0, hn⟩
      | succ fuel => exact ⟨fun _ => hn, fun i hi => by rw [hr0] at hi; cases hi⟩
    · have hi2 : i < l.length := by omega
      have hx' : (l ++ [hush o]).toArray[i]? = some x := by
        simp [List.getElem?_append_left hi2] at hx ⊢
        exact hx
      simp only [hx'] at hq
      have hgs := plain_at hp (x := x) (List.mem_of_getElem? (i := i) (by simpa using hx))
      rw [wanted_same hgs] at hq
      have hun' : (listed.setIfInBounds i true).getD l.length true = false := by rw [getD_setOff _ _ _ _ _ hiL]; exact hun
      by_cases hw : Region.wanted x (yielded (l ++ [o]).toArray a.tmps) = true
      · rw [if_pos hw] at hq ⊢
        exact .inl (Oper.wp_of_quiet hC (fun a' w' hC' hK => ih _ a' w' hC' (by simpa using hs) (closed_set hcl hi) hun' hK) hq)
      · rw [if_neg hw] at hq ⊢
        exact ih _ _ w hC (by simpa using hs) (closed_set hcl hi) hun' hq

/-- **A drawn region, by its last operation.** -/
theorem wp_region_last {id : Nat} {Q : Exit → Act → World → Prop} {a : Act} {w : World} {ops : Array Oper} {l : List Oper} {o : Oper} (hops : ops = (l ++ [o]).toArray) (hm : P.follows .mixedOrders = true) (hp : plainB (l ++ [o]) = true) (hc : coverB .any (l ++ [o]).toArray = true) (hk : backB .any (l ++ [o]).toArray = true)
    (hB : Region.lexB .any (l ++ [hush o]).toArray = true)
    (h : wpQuiet P (l ++ [hush o]).toArray (fun w' => ∃ n, w' = w.drewN n) (fun a' => ∀ w', (∃ n, w' = w.drewN n) → wpList P #[o] Q [o] a' w') l a) : (Code.region id ops true).wp P Q a w := by
  subst hops
  have hB2 := hB
  simp only [Region.lexB, Bool.and_eq_true] at hB2
  have hq : wpQuiet P (l ++ [hush o]).toArray (fun w' => ∃ n, w' = w.drewN n) (fun a' => ∀ w', (∃ n, w' = w.drewN n) → wpList P #[o] Q [o] a' w') (l ++ [hush o]) a := by
    have key : ∀ (k : List Oper) (a : Act), wpQuiet P (l ++ [hush o]).toArray (fun w' => ∃ n, w' = w.drewN n) (fun a' => ∀ w', (∃ n, w' = w.drewN n) → wpList P #[o] Q [o] a' w') k a → wpQuiet P (l ++ [hush o]).toArray (fun w' => ∃ n, w' = w.drewN n) (fun a' => ∀ w', (∃ n, w' = w.drewN n) → wpList P #[o] Q [o] a' w') (k ++ [hush o]) a := by
      intro k
      induction k with
      | nil =>
        intro a hq
        have hg : o.guard = none := plain_last hp
        show wpQuiet P _ _ _ (hush o :: []) a
        unfold wpQuiet
        rw [if_pos (wanted_none (show (hush o).guard = none from hg))]
        exact ⟨undef, fun _ _ => ⟨rfl, rfl⟩, hq⟩
      | cons x k ihk =>
        intro a hq
        show wpQuiet P _ _ _ (x :: (k ++ [hush o])) a
        unfold wpQuiet at hq ⊢
        by_cases hw : Region.wanted x (yielded (l ++ [hush o]).toArray a.tmps) = true
        · rw [if_pos hw] at hq ⊢
          exact Oper.quiet_mono (fun a' h' => ihk a' h') hq
        · rw [if_neg hw] at hq ⊢
          exact ihk _ hq
    exact key l a h
  refine wp_region_any hm ?_
  have hQ := wpAnyQ_lex (P := P) (C := fun w' => ∃ n, w' = w.drewN n) (md := .any) hB2.1 (l ++ [hush o]) 0 (Array.replicate (l ++ [hush o]).toArray.size false) a (by simp) (by simpa using hB2.2) hq
  have hsz : (l ++ [o]).toArray.size = l.length + 1 := by simp
  have := wpAny_last (Q := Q) hp hc hk (l.length + 1) (Array.replicate (l.length + 1) false) a { w with drawn := w.drawn + 1 } (C := fun w' => ∃ n, w' = w.drewN n) ⟨1, rfl⟩ (by simp) (fun j x hx hl => by
    exfalso
    by_cases hj : j < l.length + 1
    · simp [hj] at hl
    · simp [hj] at hl) (by simp) (by simpa using hQ)
  rw [hsz]
  exact this
/-- .. as it is written. -/
theorem region_last {id : Nat} {Q : Exit → Act → World → Prop} {a : Act} {w : World} {x : Oper} {L : List Oper} (hm : P.follows .mixedOrders = true) (hp : plainB (x :: L) = true) (hc : coverB .any (x :: L).toArray = true) (hk : backB .any (x :: L).toArray = true)
    (hB : Region.lexB .any ((x :: L).dropLast ++ [hush ((x :: L).getLast (List.cons_ne_nil _ _))]).toArray = true)
    (h : wpQuiet P ((x :: L).dropLast ++ [hush ((x :: L).getLast (List.cons_ne_nil _ _))]).toArray (fun w' => ∃ n, w' = w.drewN n) (fun a' => ∀ w', (∃ n, w' = w.drewN n) → wpList P #[(x :: L).getLast (List.cons_ne_nil _ _)] Q [(x :: L).getLast (List.cons_ne_nil _ _)] a' w') (x :: L).dropLast a) : (Code.region id (x :: L).toArray true).wp P Q a w := by
  have e := List.dropLast_concat_getLast (List.cons_ne_nil x L)
  refine wp_region_last (l := (x :: L).dropLast) (o := (x :: L).getLast (List.cons_ne_nil _ _)) (by rw [e]) hm (by rw [e]; exact hp) (by rw [e]; exact hc) (by rw [e]; exact hk) hB h
end
end Go.Proofs.Ytdmnoeooljofcaa
