/- A region whose order is drawn, by what its slots hold and which operations are done: appends and stores may be among them. -/
import Derived.Orders
namespace Go.Proofs.YthifoamnmhlghaaGreat.Rg
open Go

/-- An operation by itself: it hands a value on, or a call does; a panic goes its own way. -/
def Does (P : Program) (E : List PanicEntry → World → Prop) (ρ : Operand → Value) (o : Oper) (w : World) (R : Value → World → Prop) : Prop :=
  match (execOp ρ o).run P w with
  | .ok (.value v) w' => R v w'
  | .ok .skip w' => R undef w'
  | .ok (.enter f args) w' => Calls P f args w' fun
      | .returned v, w'' => R v w''
      | .panicked c, w'' => E c w''
      | .outgrown, _ => False
  | _ => False

def tmpsOf (o : Oper) : List Tmp := o.op.operands.toList.filterMap fun x => match x with
  | .tmp t => some t
  | _ => none

def dstAt (ops : Array Oper) (j : Nat) : Option Tmp := (ops[j]?).bind (·.dst)
/-- What is asked of an operation's text: no guard, it waits for earlier ones alone, and for all whose slots it reads; nobody else writes its slot. -/
def okOp (ops : Array Oper) (n i : Nat) : Bool := match ops[i]? with
  | none => true
  | some o => o.guard.isNone && o.after.all (fun e => decide (e.on < i)) &&
      (tmpsOf o).all (fun s => (List.range ops.size).all fun j => !(decide (dstAt ops j = some s)) || o.after.any (fun e => decide (e.on = j) && Region.binds .any e)) &&
      (match o.dst with
        | none => true
        | some d => decide (d < n) && (List.range ops.size).all fun j => decide (j = i) || !(decide (dstAt ops j = some d)))
def okOps (ops : Array Oper) (n : Nat) : Bool := (List.range ops.size).all (okOp ops n)

section
variable {P : Program} {ops : Array Oper} {Q : Exit → Act → World → Prop} {E : List PanicEntry → World → Prop} {I : (Nat → Bool) → World → Prop} {G : Nat → World → Value → Prop}

/-- What one operation is to do: it is not done yet, all that it waits for is; what other slots hold stays so. -/
def StepOk (P : Program) (E : List PanicEntry → World → Prop) (I : (Nat → Bool) → World → Prop) (G : Nat → World → Value → Prop) (i : Nat) (o : Oper) : Prop :=
  ∀ (ρ : Operand → Value) (w : World) (L : Nat → Bool), (∀ v, ρ (.const v) = v) → (∀ f, ρ (.func f) = .func (.func f) #[] #[]) → L i = false → (∀ e ∈ o.after, Region.binds .any e = true → L e.on = true) → I L w → (∀ s ∈ tmpsOf o, G s w (ρ (.tmp s))) →
    Does P E ρ o w fun v w' => (∀ s, o.dst ≠ some s → ∀ u, G s w u → G s w' u) ∧ I (fun j => L j || decide (j = i)) w' ∧ ∀ d, o.dst = some d → G d w' v

structure Jn (ops : Array Oper) (I : (Nat → Bool) → World → Prop) (G : Nat → World → Value → Prop) (B : List Nat) (a0 : Act) (listed : Array Bool) (a : Act) (w : World) : Prop where
  size : a.tmps.size = a0.tmps.size
  defers : a.defers = a0.defers
  lsz : listed.size = ops.size
  inv : I (fun j => listed.getD j false) w
  base : ∀ s ∈ B, G s w (a.tmps.getD s undef)
  got : ∀ j d, dstAt ops j = some d → listed.getD j false = true → G d w (a.tmps.getD d undef)
  old : ∀ s, (∀ j, dstAt ops j ≠ some s) → a.tmps.getD s undef = a0.tmps.getD s undef

theorem okOps_at {n i : Nat} {o : Oper} (h : okOps ops n = true) (hi : ops[i]? = some o) :
    o.guard = none ∧ (∀ e ∈ o.after, e.on < i) ∧ (∀ s ∈ tmpsOf o, ∀ j, dstAt ops j = some s → ∃ e ∈ o.after, e.on = j ∧ Region.binds .any e = true) ∧ (∀ d, o.dst = some d → d < n ∧ ∀ j, j ≠ i → dstAt ops j ≠ some d) := by
  have hlt : i < ops.size := (Array.getElem?_eq_some_iff.1 hi).1
  have h1 := List.all_eq_true.1 h i (List.mem_range.2 hlt)
  unfold okOp at h1
  rw [hi] at h1
  simp only [Bool.and_eq_true] at h1
  obtain ⟨⟨⟨h2, h3⟩, h4⟩, h5⟩ := h1
  have hj : ∀ j s, dstAt ops j = some s → j < ops.size := by
    intro j s hs
    unfold dstAt at hs
    by_cases hl : j < ops.size
    · exact hl
    · rw [Array.getElem?_eq_none (by omega)] at hs; cases hs
  refine ⟨by simpa using h2, fun e he => by simpa using Array.all_eq_true_iff_forall_mem.1 h3 e he, fun s hs j hd => ?_, fun d hd => ?_⟩
  · have h6 := List.all_eq_true.1 (List.all_eq_true.1 h4 s hs) j (List.mem_range.2 (hj j s hd))
    simp only [hd, decide_true, Bool.not_true, Bool.false_or] at h6
    obtain ⟨k, hk, h7⟩ := Array.any_eq_true.1 h6
    have he : o.after[k] ∈ o.after := Array.getElem_mem hk
    generalize o.after[k] = e at h7 he
    simp only [Bool.and_eq_true, decide_eq_true_eq] at h7
    exact ⟨e, he, h7.1, h7.2⟩
  · rw [hd] at h5
    simp only [Bool.and_eq_true, decide_eq_true_eq] at h5
    refine ⟨h5.1, fun j hji hdj => ?_⟩
    have h6 := List.all_eq_true.1 h5.2 j (List.mem_range.2 (hj j d hdj))
    simp [hji, hdj] at h6

theorem getD_setIn {α : Type} (a : Array α) (i : Nat) (v d : α) (h : i < a.size) : (a.setIfInBounds i v).getD i d = v := by
  simp [h]
theorem getD_setOff {α : Type} (a : Array α) (i j : Nat) (v d : α) (h : i ≠ j) : (a.setIfInBounds i v).getD j d = a.getD j d := by
  simp only [Array.getD_eq_getD_getElem?]
  rw [Array.getElem?_setIfInBounds_ne h]

/-- One operation more. -/
theorem Jn.put {B : List Nat} {a0 a : Act} {listed : Array Bool} {w w' : World} {i : Nat} {o : Oper} {v : Value} (hJ : Jn ops I G B a0 listed a w) (hok : okOps ops a0.tmps.size = true) (hi : ops[i]? = some o) (hun : listed.getD i true = false)
    (hB : ∀ s ∈ B, ∀ j, dstAt ops j ≠ some s) (hG : ∀ s, o.dst ≠ some s → ∀ u, G s w u → G s w' u) (hI : I (fun j => listed.getD j false || decide (j = i)) w') (hg : ∀ d, o.dst = some d → G d w' v) :
    Jn ops I G B a0 (listed.setIfInBounds i true) (a.put o.dst v) w' := by
  obtain ⟨-, -, -, h4⟩ := okOps_at hok hi
  have hlt : i < ops.size := (Array.getElem?_eq_some_iff.1 hi).1
  have hdi : dstAt ops i = o.dst := by unfold dstAt; rw [hi]; rfl
  have hother : ∀ s, o.dst ≠ some s → (a.put o.dst v).tmps.getD s undef = a.tmps.getD s undef := by
    intro s hs
    cases hd : o.dst with
    | none => rfl
    | some d =>
      rw [hd] at hs
      exact getD_setOff _ _ _ _ _ (fun e => hs (by rw [e]))
  refine ⟨?_, ?_, by simpa using hJ.lsz, ?_, fun s hs => ?_, fun j d hj hl => ?_, fun s hs => ?_⟩
  · cases hd : o.dst with
    | none => exact hJ.size
    | some d => simpa [Act.put] using hJ.size
  · cases hd : o.dst with
    | none => exact hJ.defers
    | some d => exact hJ.defers
  · have e : (fun j => (listed.setIfInBounds i true).getD j false) = fun j => listed.getD j false || decide (j = i) := by
      funext j
      by_cases hz : i = j
      · subst hz
        rw [getD_setIn _ _ _ _ (by rw [hJ.lsz]; exact hlt)]
        simp
      · rw [getD_setOff _ _ _ _ _ hz]
        simp [Ne.symm hz]
    rw [e]
    exact hI
  · have hne : o.dst ≠ some s := by rw [← hdi]; exact hB s hs i
    rw [hother s hne]
    exact hG _ hne _ (hJ.base s hs)
  · by_cases hji : j = i
    · subst hji
      rw [hdi] at hj
      have hd := (h4 d hj).1
      rw [hj]
      show G d w' ((a.tmps.setIfInBounds d v).getD d undef)
      rw [getD_setIn _ _ _ _ (by rw [hJ.size]; exact hd)]
      exact hg d hj
    · rw [getD_setOff _ _ _ _ _ (Ne.symm hji)] at hl
      have hne : o.dst ≠ some d := fun e => (h4 d e).2 j hji hj
      rw [hother d hne]
      exact hG _ hne _ (hJ.got j d hj hl)
  · rw [hother s (by rw [← hdi]; exact hs i)]
    exact hJ.old s hs

theorem Jn.step {B : List Nat} {a0 a : Act} {listed : Array Bool} {w : World} {i : Nat} (hJ : Jn ops I G B a0 listed a w) (hok : okOps ops a0.tmps.size = true)
    (hB : ∀ s ∈ B, ∀ j, dstAt ops j ≠ some s) (huse : ∀ (j : Nat) (o : Oper), ops[j]? = some o → ∀ s ∈ tmpsOf o, s ∈ B ∨ ∃ j, dstAt ops j = some s) (hstep : ∀ (i : Nat) (o : Oper), ops[i]? = some o → StepOk P E I G i o)
    (hE : ∀ c a w, a.defers = a0.defers → E c w → Q (.panic c) a w) (hr : i ∈ Region.ready .any ops listed) :
    wpOp P ops Q i (fun a' w' => Jn ops I G B a0 (listed.setIfInBounds i true) a' w') a w := by
  obtain ⟨hun, o, ho, hall⟩ := mem_ready.1 hr
  obtain ⟨h1, h2, h3, h4⟩ := okOps_at hok ho
  have hlt : i < ops.size := (Array.getElem?_eq_some_iff.1 ho).1
  have hf : listed.getD i false = false := by
    have : i < listed.size := by rw [hJ.lsz]; exact hlt
    simpa [this] using hun
  have hd := hstep i o ho a.eval w (fun j => listed.getD j false) (fun _ => rfl) (fun _ => rfl) hf (fun e he hb => by simpa using hall e he hb) hJ.inv (by
    intro s hs
    rcases huse i o ho s hs with hb | ⟨j, hj⟩
    · exact hJ.base s hb
    · obtain ⟨e, he, e1, e2⟩ := h3 s hs j hj
      have := hall e he e2
      rw [e1] at this
      exact hJ.got j s hj (by simpa using this))
  unfold wpOp
  simp only [ho]
  have hw : Region.wanted o (yielded ops a.tmps) = true := by unfold Region.wanted; rw [h1]
  rw [if_pos hw]
  refine .inl ?_
  unfold Oper.wp
  unfold Does at hd
  generalize (execOp a.eval o).run P w = r at hd ⊢
  have fin : ∀ v w', ((∀ s, o.dst ≠ some s → ∀ u, G s w u → G s w' u) ∧ I (fun j => listed.getD j false || decide (j = i)) w' ∧ ∀ d, o.dst = some d → G d w' v) → Jn ops I G B a0 (listed.setIfInBounds i true) (a.put o.dst v) w' :=
    fun v w' h => hJ.put hok ho hun hB h.1 h.2.1 h.2.2
  cases r with
  | ok n w' =>
    cases n <;> simp only [Oper.upon] at hd ⊢
    case value v => exact fin v w' hd
    case skip => exact fin _ w' hd
    case enter f args =>
      refine Calls.mono hd fun e w'' he => ?_
      cases e with
      | returned v => exact fin v w'' he
      | panicked c => exact hE _ _ _ hJ.defers he
      | outgrown => exact he.elim
    all_goals exact hd.elim
  | halt x w' => exact hd.elim

def left (listed : Array Bool) : Nat := ((List.range listed.size).filter fun i => !listed.getD i true).length

theorem left_set {listed : Array Bool} {i : Nat} (h : listed.getD i true = false) : left (listed.setIfInBounds i true) < left listed := by
  have hlt : i < listed.size := by
    by_cases hl : i < listed.size
    · exact hl
    · simp [hl] at h
  unfold left
  rw [Array.size_setIfInBounds]
  have hp : ∀ j, (!(listed.setIfInBounds i true).getD j true) = (!listed.getD j true && !decide (j = i)) := by
    intro j
    by_cases hj : j = i
    · subst hj; rw [getD_setIn _ _ _ _ hlt]; simp
    · rw [getD_setOff _ _ _ _ _ (Ne.symm hj)]; simp [hj]
  simp only [hp]
  rw [show (fun j => !listed.getD j true && !decide (j = i)) = (fun j => (!decide (j = i)) && !listed.getD j true) from funext fun j => Bool.and_comm _ _, ← List.filter_filter]
  refine List.length_filter_lt_length_iff_exists.2 ⟨i, ?_, by simp⟩
  exact List.mem_filter.2 ⟨List.mem_range.2 hlt, by rw [h]; rfl⟩

theorem ready_none {listed : Array Bool} {n : Nat} (hok : okOps ops n = true) (hsz : listed.size = ops.size) (h : Region.ready .any ops listed = []) : ∀ i, i < ops.size → listed.getD i false = true := by
  intro i
  induction i using Nat.strongRecOn with
  | _ i ih =>
    intro hi
    apply Classical.byContradiction
    intro hn
    have ho : ops[i]? = some ops[i] := by simp [hi]
    obtain ⟨-, h2, -, -⟩ := okOps_at hok ho
    have hr : i ∈ Region.ready .any ops listed := mem_ready.2 ⟨by simpa [hsz, hi] using hn, ops[i], ho, fun e he _ => by
      have := ih e.on (h2 e he) (by have := h2 e he; omega)
      simpa using this⟩
    rw [h] at hr
    cases hr

theorem wpAny_inv {B : List Nat} {a0 : Act} (hok : okOps ops a0.tmps.size = true)
    (hB : ∀ s ∈ B, ∀ j, dstAt ops j ≠ some s) (huse : ∀ (j : Nat) (o : Oper), ops[j]? = some o → ∀ s ∈ tmpsOf o, s ∈ B ∨ ∃ j, dstAt ops j = some s) (hstep : ∀ (i : Nat) (o : Oper), ops[i]? = some o → StepOk P E I G i o)
    (hE : ∀ c a w, a.defers = a0.defers → E c w → Q (.panic c) a w)
    (hend : ∀ listed a w, Jn ops I G B a0 listed a w → (∀ i, i < ops.size → listed.getD i false = true) → Q .normal a w) :
    ∀ fuel listed a w, left listed ≤ fuel → Jn ops I G B a0 listed a w → wpAny P .any ops Q fuel listed a w := by
  intro fuel
  induction fuel with
  | zero =>
    intro listed a w hf hJ
    have hr : Region.ready .any ops listed = [] := by
      apply Classical.byContradiction
      intro hn
      obtain ⟨i, hi⟩ := List.exists_mem_of_ne_nil _ hn
      have := left_set (mem_ready.1 hi).1
      omega
    exact ⟨hr, hend _ _ _ hJ (ready_none hok hJ.lsz hr)⟩
  | succ fuel ih =>
    intro listed a w hf hJ
    refine ⟨fun hr => hend _ _ _ hJ (ready_none hok hJ.lsz hr), fun i hi => ?_⟩
    refine wpOp_mono (fun a' w' h' => ih _ a' w' ?_ h') (hJ.step hok hB huse hstep hE hi)
    have := left_set (mem_ready.1 hi).1
    omega

/-- **A drawn region, by what its slots hold and what is done.** -/
theorem region_go {id : Nat} {B : List Nat} {a : Act} {w : World} (E : List PanicEntry → World → Prop) (I : (Nat → Bool) → World → Prop) (G : Nat → World → Value → Prop) (hm : P.follows .mixedOrders = true) (hok : okOps ops a.tmps.size = true)
    (hB : ∀ s ∈ B, ∀ j, dstAt ops j ≠ some s) (huse : ∀ (j : Nat) (o : Oper), ops[j]? = some o → ∀ s ∈ tmpsOf o, s ∈ B ∨ ∃ j, dstAt ops j = some s)
    (hI : I (fun _ => false) { w with drawn := w.drawn + 1 }) (hb : ∀ s ∈ B, G s { w with drawn := w.drawn + 1 } (a.tmps.getD s undef))
    (hstep : ∀ (i : Nat) (o : Oper), ops[i]? = some o → StepOk P E I G i o)
    (hE : ∀ c a' w, a'.defers = a.defers → E c w → Q (.panic c) a' w)
    (hend : ∀ a' w', a'.tmps.size = a.tmps.size → a'.defers = a.defers → (∃ L, (∀ j, j < ops.size → L j = true) ∧ I L w') → (∀ s, (∀ j, dstAt ops j ≠ some s) → a'.tmps.getD s undef = a.tmps.getD s undef) → (∀ j d, dstAt ops j = some d → G d w' (a'.tmps.getD d undef)) → Q .normal a' w') :
    (Code.region id ops true).wp P Q a w := by
  refine wp_region_any hm (wpAny_inv (a0 := a) (B := B) (I := I) hok hB huse hstep hE (fun listed a' w' hJ hall => hend a' w' hJ.size hJ.defers ⟨_, hall, hJ.inv⟩ hJ.old fun j d hd => hJ.got j d hd (hall j ?_)) ops.size _ a _ ?_ ⟨rfl, rfl, by simp, ?_, hb, fun j d hd hl => ?_, fun s hs => rfl⟩)
  · unfold dstAt at hd
    by_cases hl : j < ops.size
    · exact hl
    · rw [Array.getElem?_eq_none (by omega)] at hd; cases hd
  · unfold left
    refine Nat.le_trans (List.length_filter_le _ _) ?_
    simp
  · have e : (fun j => (Array.replicate ops.size false).getD j false) = fun _ => false := by
      funext j
      by_cases hz : j < ops.size
      · simp [hz]
      · simp [hz]
    rw [e]
    exact hI
  · exfalso
    by_cases hz : j < ops.size
    · simp [hz] at hl
    · simp [hz] at hl
end
section
variable {P : Program} {E : List PanicEntry → World → Prop} {I : (Nat → Bool) → World → Prop} {G : Nat → World → Value → Prop}
def AllSteps (P : Program) (E : List PanicEntry → World → Prop) (I : (Nat → Bool) → World → Prop) (G : Nat → World → Value → Prop) : Nat → List Oper → Prop
  | _, [] => True
  | i, o :: r => StepOk P E I G i o ∧ AllSteps P E I G (i + 1) r
theorem all_steps : ∀ (l : List Oper) (k : Nat), AllSteps P E I G k l → ∀ (i : Nat) (o : Oper), l[i]? = some o → StepOk P E I G (k + i) o
  | [], _, _, i, o, h => by simp at h
  | x :: r, k, h, 0, o, ho => by simp at ho; subst ho; exact h.1
  | x :: r, k, h, i + 1, o, ho => by
    have := all_steps r (k + 1) h.2 i o (by simpa using ho)
    rwa [show k + 1 + i = k + (i + 1) by omega] at this
theorem steps_of {l : List Oper} (h : AllSteps P E I G 0 l) : ∀ (i : Nat) (o : Oper), l.toArray[i]? = some o → StepOk P E I G i o := fun i o ho => by
  have := all_steps l 0 h i o (by simpa using ho)
  rwa [Nat.zero_add] at this
end

/-- What is read by a region's operations: of slots that nobody writes, or that one of them does. -/
def okUse (ops : Array Oper) (B : List Nat) : Bool := (List.range ops.size).all fun j => match ops[j]? with
  | none => true
  | some o => (tmpsOf o).all fun s => B.contains s || (List.range ops.size).any fun j => decide (dstAt ops j = some s)
def okBase (ops : Array Oper) (B : List Nat) : Bool := B.all fun s => (List.range ops.size).all fun j => !decide (dstAt ops j = some s)
theorem use_of {ops : Array Oper} {B : List Nat} (h : okUse ops B = true) : ∀ (j : Nat) (o : Oper), ops[j]? = some o → ∀ s ∈ tmpsOf o, s ∈ B ∨ ∃ j, dstAt ops j = some s := by
  intro j o ho s hs
  have h1 := List.all_eq_true.1 h j (List.mem_range.2 (Array.getElem?_eq_some_iff.1 ho).1)
  rw [ho] at h1
  have h2 := List.all_eq_true.1 h1 s hs
  rcases (Bool.or_eq_true_iff.1 h2 : _ ∨ _) with h3 | h3
  · exact .inl (by simpa using h3)
  · obtain ⟨j, _, h4⟩ := List.any_eq_true.1 h3
    exact .inr ⟨j, by simpa using h4⟩
theorem base_of {ops : Array Oper} {B : List Nat} (h : okBase ops B = true) : ∀ s ∈ B, ∀ j, dstAt ops j ≠ some s := by
  intro s hs j hj
  have hl : j < ops.size := by
    unfold dstAt at hj
    by_cases hl : j < ops.size
    · exact hl
    · rw [Array.getElem?_eq_none (by omega)] at hj; cases hj
  have h1 := List.all_eq_true.1 (List.all_eq_true.1 h s hs) j (List.mem_range.2 hl)
  simp [hj] at h1

/-- A value is handed on. -/
theorem does_value {P : Program} {E : List PanicEntry → World → Prop} {ρ : Operand → Value} {o : Oper} {w w' : World} {v : Value} {R : Value → World → Prop} (h : (execOp ρ o).run P w = .ok (.value v) w') (hr : R v w') : Does P E ρ o w R := by
  unfold Does; rw [h]; exact hr
theorem does_call {P : Program} {E : List PanicEntry → World → Prop} {ρ : Operand → Value} {o : Oper} {w w' : World} {f : FuncId} {args : Array Value} {R : Value → World → Prop} {K : Ending → World → Prop} (h : (execOp ρ o).run P w = .ok (.enter f args) w') (hc : Calls P f args w' K)
    (hr : ∀ e w'', K e w'' → ∃ v, e = .returned v ∧ R v w'') : Does P E ρ o w R := by
  unfold Does; rw [h]
  refine hc.mono fun e w'' he => ?_
  obtain ⟨v, rfl, hv⟩ := hr e w'' he
  exact hv
/-- No panic is let by. -/
def NoE (_ : List PanicEntry) (_ : World) : Prop := False
end Go.Proofs.YthifoamnmhlghaaGreat.Rg
