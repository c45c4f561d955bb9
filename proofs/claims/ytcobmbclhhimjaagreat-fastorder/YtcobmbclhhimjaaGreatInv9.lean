/- A region whose order is drawn, by what its slots hold and which operations are done: appends and stores may be among them. -/
import Derived.Orders
import Derived.Test.YtcobmbclhhimjaaGreatMem
namespace Go.Proofs.YtcobmbclhhimjaaGreat.Rg
open Go

/-- An operation by itself: it hands a value on, or a call does; a panic goes its own way. -/
def Does (P : Program) (E : List PanicEntry → World → Prop) (ρ : Operand → Value) (o : Oper) (w : World) (R : Value → World → Prop) : Prop :=
  match (execOp ρ o).run P w with
  | .ok (.value v) w' => R v w'
  | .ok .skip w' => R undef w'
  | .ok (.enter f args) w' => Calls P f args w' fun
      | .returned v, w'' => R v w''
      | .panicked c, w'' => E c w''
      | .outgrown, _ => False
  | _ => False

def tmpsOf (o : Oper) : List Tmp := o.op.operands.toList.filterMap fun x => match x with
  | .tmp t => some t
  | _ => none

def dstAt (ops : Array Oper) (j : Nat) : Option Tmp := (ops[j]?).bind (·.dst)
/-- What is asked of an operation's text: no guard, it waits for earlier ones alone, and for all whose slots it reads; nobody else writes its slot. -/
def okOp (ops : Array Oper) (n i : Nat) : Bool := match ops[i]? with
  | none => true
  | some o => o.guard.isNone && o.after.all (fun e => decide (e.on < i)) &&
      (tmpsOf o).all (fun s => (List.range ops.size).all fun j => !(decide (dstAt ops j = some s)) || o.after.any (fun e => decide (e.on = j) && Region.binds .any e)) &&
      (match o.dst with
        | none => true
        | some d => decide (d < n) && (List.range ops.size).all fun j => decide (j = i) || !(decide (dstAt ops j = some d)))
def okOps (ops : Array Oper) (n : Nat) : Bool := (List.range ops.size).all (okOp ops n)

section
variable {P : Program} {ops : Array Oper} {Q : Exit → Act → World → Prop} {E : List PanicEntry → World → Prop} {I : (Nat → Bool) → World → Prop} {G : Nat → World → Value → Prop}

/-- What one operation is to do: it is not done yet, all that it waits for is; what other slots hold stays so. -/
def StepOk (P : Program) (E : List PanicEntry → World → Prop) (I : (Nat → Bool) → World → Prop) (G : Nat → World → Value → Prop) (i : Nat) (o : Oper) : Prop :=
  ∀ (ρ : Operand → Value) (w : World) (L : Nat → Bool), (∀ v, ρ (.const v) = v) → (∀ f, ρ (.func f) = .func (.func f) #[] #[]) → L i = false → (∀ e ∈ o.after, Region.binds .any e = true → L e.on = true) → I L w → (∀ s ∈ tmpsOf o, G s w (ρ (.tmp s))) →
    Does P E ρ o w fun v w' => (∀ s, o.dst ≠ some s → ∀ u, G s w u → G s w' u) ∧ I (fun j => L j || decide (j = i)) w' ∧ ∀ d, o.dst = some d → G d w' v

structure Jn (ops : Array Oper) (I : (Nat → Bool) → World → Prop) (G : Nat → World → Value → Prop) (B : List Nat) (a0 : Act) (listed : Array Bool) (a : Act) (w : World) : Prop where
  size : a.tmps.size = a0.tmps.size
  defers : a.defers = a0.defers
  lsz : listed.size = ops.size
  inv : I (fun j => listed.getD j false) w
  base : ∀ s ∈ B, G s w (a.tmps.getD s undef)
  got : ∀ j d, dstAt ops j = some d → listed.getD j false = true → G d w (a.tmps.getD d undef)
  old : ∀ s, (∀ j, dstAt ops j ≠ some s) → a.tmps.getD s undef = a0.tmps.getD s undef

theorem okOps_at {n i : Nat} {o : Oper} (h : okOps ops n = true) (hi : ops[i]? = some o) :
    o.guard = none ∧ (∀ e ∈ o.after, e.on < i) ∧ (∀ s ∈ tmpsOf o, ∀ j, dstAt ops j = some s → ∃ e ∈ o.after, e.on = j ∧ Region.binds .any e = true) ∧ (∀ d, o.dst = some d → d < n ∧ ∀ j, j ≠ i → dstAt ops j ≠ some d) := by
  have hlt : i < ops.size := (Array.getElem?_eq_some_iff.1 hi).1
  have h1 := List.all_eq_true.1 h i (List.mem_range.2 hlt)
  unfold okOp at h1
  rw [hi] at h1
  simp only [Bool.and_eq_true] at h1
  obtain ⟨⟨⟨h2, h3⟩, h4⟩, h5⟩ := h1
  have hj : ∀ j s, dstAt ops j = some s → j < ops.size := by
    intro j s hs
    unfold dstAt at hs
    by_cases hl : j < ops.size
    · exact hl
    · rw [Array.getElem?_eq_none (by omega)] at hs; cases hs
  refine ⟨by simpa using h2, fun e he => by simpa using Array.all_eq_true_iff_forall_mem.1 h3 e he, fun s hs j hd => ?_, fun d hd => ?_⟩
  · have h6 := List.all_eq_true.1 (List.all_eq_true.1 h4 s hs) j (List.mem_range.2 (hj j s hd))
    simp only [hd, decide_true, Bool.not_true, Bool.false_or] at h6
    obtain ⟨k, hk, h7⟩ := Array.any_eq_true.1 h6
    have he : o.after[k] ∈ o.after := Array.getElem_mem hk
    generalize o.after[k] = e at h7 he
    simp only [Bool.and_eq_true, decide_eq_true_eq] at h7
    exact ⟨e, he, h7.1, h7.2⟩
  · rw [hd] at h5
    simp only [Bool.and_eq_true, decide_eq_true_eq] at h5
    refine ⟨h5.1, fun j hji hdj => ?_⟩
    have h6 := List.all_eq_true.1 h5.2 j (List.mem_range.2 (hj j d hdj))
    simp [hji, hdj] at h6

theorem getD_setIn {α : Type} (a : Array α) (i : Nat) (v d : α) (h : i < a.size) : (a.setIfInBounds i v).getD i d = v := by
  simp [h]
theorem getD_setOff {α : Type} (a : Array α) (i j : Nat) (v d : α) (h : i ≠ j) : (a.setIfInBounds i v).getD j d = a.getD j d := by
  simp only [Array.getD_eq_getD_getElem?]
  rw [Array.getElem?_setIfInBounds_ne h]

/-- One operation more. -/
theorem Jn.put {B : List Nat} {a0 a : Act} {listed : Array Bool} {w w' : World} {i : Nat} {o : Oper} {v : Value} (hJ : Jn ops I G B a0 listed a w) (hok : okOps ops a0.tmps.size = true) (hi : ops[i]? = some o) (hun : listed.getD i true = false)
    (hB : ∀ s ∈ B, ∀ j, dstAt ops j ≠ some s) (hG : ∀ s, o.dst ≠ some s → ∀ u, G s w u → G s w' u) (hI : I (fun j => listed.getD j false || decide (j = i)) w') (hg : ∀ d, o.dst = some d → G d w' v) :
    Jn ops I G B a0 (listed.setIfInBounds i true) (a.put o.dst v) w' := by
  obtain ⟨-, -, -, h4⟩ := okOps_at hok hi
  have hlt : i < ops.size := (Array.getElem?_eq_some_iff.1 hi).1
  have hdi : dstAt ops i = o.dst := by unfold dstAt; rw [hi]; rfl
  have hother : ∀ s, o.dst ≠ some s → (a.put o.dst v).tmps.getD s undef = a.tmps.getD s undef := by
    intro s hs
    cases hd : o.dst with
    | none => rfl
    | some d =>
      rw [hd] at hs
      exact getD_setOff _ _ _ _ _ (fun e => hs (by rw [e]))
  refine ⟨?_, ?_, by simpa using hJ.lsz, ?_, fun s hs => ?_, fun j d hj hl => ?_, fun s hs => ?_⟩
  · cases hd : o.dst with
    | none => exact hJ.size
    | some d => simpa [Act.put] using hJ.size
  · cases hd : o.dst with
    | none => exact hJ.defers
    | some d => exact hJ.defers
  · have e : (fun j => (listed.setIfInBounds i true).getD j false) = fun j => listed.getD j false || decide (j = i) := by
      funext j
      by_cases hz : i = j
      · subst hz
        rw [getD_setIn _ _ _ _ (by rw [hJ.lsz]; exact hlt)]
        simp
      · rw [getD_setOff _ _ _ _ _ hz]
        simp [Ne.symm hz]
    rw [e]
    exact hI
  · have hne : o.dst ≠ some s := by rw [← hdi]; exact hB s hs i
    rw [hother s hne]
    exact hG _ hne _ (hJ.base s hs)
  · by_cases hji : j = i
    · subst hji
      rw [hdi] at hj
      have hd := (h4 d hj).1
      rw [hj]
      show G d w' ((a.tmps.setIfInBounds d v).getD d undef)
      rw [getD_setIn _ _ _ _ (by rw [hJ.size]; exact hd)]
      exact hg d hj
    · rw [getD_setOff _ _ _ _ _ (Ne.symm hji)] at hl
      have hne : o.dst ≠ some d := fun e => (h4 d e).2 j hji hj
      rw [hother d hne]
      exact hG _ hne _ (hJ.got j d hj hl)
  · rw [hother s (by rw [← hdi]; exact hs i)]
    exact hJ.old s hs

theorem Jn.step {B : List Nat} {a0 a : Act} {listed : Array Bool} {w : World} {i : Nat} (hJ : Jn ops I G B a0 listed a w) (hok : okOps ops a0.tmps.size = true)
    (hB : ∀ s ∈ B, ∀ j, dstAt ops j ≠ some s) (huse : ∀ (j : Nat) (o : Oper), ops[j]? = some o → ∀ s ∈ tmpsOf o, s ∈ B ∨ ∃ j, dstAt ops j = some s) (hstep : ∀ (i : Nat) (o : Oper), ops[i]? = some o → StepOk P E I G i o)
    (hE : ∀ c a w, a.defers = a0.defers → E c w → Q (.panic c) a w) (hr : i ∈ Region.ready .any ops listed) :
    wpOp P ops Q i (fun a' w' => Jn ops I G B a0 (listed.setIfInBounds i true) a' w') a w := by
  obtain ⟨hun, o, ho, hall⟩ := mem_ready.1 hr
  obtain ⟨h1, h2, h3, h4⟩ := okOps_at hok ho
  have hlt : i < ops.size := (Array.getElem?_eq_some_iff.1 ho).1
  have hf : listed.getD i false = false := by
    have : i < listed.size := by rw [hJ.lsz]; exact hlt
    simpa [this] using hun
  have hd := hstep i o ho a.eval w (fun j => listed.getD j false) (fun _ => rfl) (fun _ => rfl) hf (fun e he hb => by simpa using hall e he hb) hJ.inv (by
    intro s hs
    rcases huse i o ho s hs with hb | ⟨j, hj⟩
    · exact hJ.base s hb
    · obtain ⟨e, he, e1, e2⟩ := h3 s hs j hj
      have := hall e he e2
      rw [e1] at this
      exact hJ.got j s hj (by simpa using this))
  unfold wpOp
  simp only [ho]
  have hw : Region.wanted o (yielded ops a.tmps) = true := by unfold Region.wanted; rw [h1]
  rw [if_pos hw]
  refine .inl ?_
  unfold Oper.wp
  unfold Does at hd
  generalize (execOp a.eval o).run P w = r at hd ⊢
  have fin : ∀ v w', ((∀ s, o.dst ≠ some s → ∀ u, G s w u → G s w' u) ∧ I (fun j => listed.getD j false || decide (j = i)) w' ∧ ∀ d, o.dst = some d → G d w' v) → Jn ops I G B a0 (listed.setIfInBounds i true) (a.put o.dst v) w' :=
    fun v w' h => hJ.put hok ho hun hB h.1 h.2.1 h.2.2
  cases r with
  | ok n w' =>
    cases n <;> simp only [Oper.upon] at hd ⊢
    case value v => exact fin v w' hd
    case skip => exact fin _ w' hd
    case enter f args =>
      refine Calls.mono hd fun e w'' he => ?_
      cases e with
      | returned v => exact fin v w'' he
      | panicked c => exact hE _ _ _ hJ.defers he
      | outgrown => exact he.elim
    all_goals exact hd.elim
  | halt x w' => exact hd.elim

def left (listed : Array Bool) : Nat := ((List.range listed.size).filter fun i => !listed.getD i true).length

theorem left_set {listed : Array Bool} {i : Nat} (h : listed.getD i true = false) : left (listed.setIfInBounds i true) < left listed := by
  have hlt : i < listed.size := by
    by_cases hl : i < listed.size
    · exact hl
    · simp [hl] at h
  unfold left
  rw [Array.size_setIfInBounds]
  have hp : ∀ j, (!(listed.setIfInBounds i true).getD j true) = (!listed.getD j true && !decide (j = i)) := by
    intro j
    by_cases hj : j = i
    · subst hj; rw [getD_setIn _ _ _ _ hlt]; simp
    · rw [getD_setOff _ _ _ _ _ (Ne.symm hj)]; simp [hj]
  simp only [hp]
  rw [show (fun j => !listed.getD j true && !decide (j = i)) = (fun j => (!decide (j = i)) && !listed.getD j true) from funext fun j => Bool.and_comm _ _, ← List.filter_filter]
  refine List.length_filter_lt_length_iff_exists.2 ⟨i, ?_, by simp⟩
  exact List.mem_filter.2 ⟨List.mem_range.2 hlt, by rw [h]; rfl⟩

theorem ready_none {listed : Array Bool} {n : Nat} (hok : okOps ops n = true) (hsz : listed.size = ops.size) (h : Region.ready .any ops listed = []) : ∀ i, i < ops.size → listed.getD i false = true := by
  intro i
  induction i using Nat.strongRecOn with
  | _ i ih =>
    intro hi
    apply Classical.byContradiction
    intro hn
    have ho : ops[i]? = some ops[i] := by simp [hi]
    obtain ⟨-, h2, -, -⟩ := okOps_at hok ho
    have hr : i ∈ Region.ready .any ops listed := mem_ready.2 ⟨by simpa [hsz, hi] using hn, ops[i], ho, fun e he _ => by
      have := ih e.on (h2 e he) (by have := h2 e he; omega)
      simpa using this⟩
    rw [h] at hr
    cases hr

end
section
variable {P : Program} {E : List PanicEntry → World → Prop} {I : (Nat → Bool) → World → Prop} {G : Nat → World → Value → Prop}
def AllSteps (P : Program) (E : List PanicEntry → World → Prop) (I : (Nat → Bool) → World → Prop) (G : Nat → World → Value → Prop) : Nat → List Oper → Prop
  | _, [] => True
  | i, o :: r => StepOk P E I G i o ∧ AllSteps P E I G (i + 1) r
end

/-- What is read by a region's operations: of slots that nobody writes, or that one of them does. -/
def okUse (ops : Array Oper) (B : List Nat) : Bool := (List.range ops.size).all fun j => match ops[j]? with
  | none => true
  | some o => (tmpsOf o).all fun s => B.contains s || (List.range ops.size).any fun j => decide (dstAt ops j = some s)
def okBase (ops : Array Oper) (B : List Nat) : Bool := B.all fun s => (List.range ops.size).all fun j => !decide (dstAt ops j = some s)
/-- A value is handed on. -/
theorem does_value {P : Program} {E : List PanicEntry → World → Prop} {ρ : Operand → Value} {o : Oper} {w w' : World} {v : Value} {R : Value → World → Prop} (h : (execOp ρ o).run P w = .ok (.value v) w') (hr : R v w') : Does P E ρ o w R := by
  unfold Does; rw [h]; exact hr
theorem does_call {P : Program} {E : List PanicEntry → World → Prop} {ρ : Operand → Value} {o : Oper} {w w' : World} {f : FuncId} {args : Array Value} {R : Value → World → Prop} {K : Ending → World → Prop} (h : (execOp ρ o).run P w = .ok (.enter f args) w') (hc : Calls P f args w' K)
    (hr : ∀ e w'', K e w'' → ∃ v, e = .returned v ∧ R v w'') : Does P E ρ o w R := by
  unfold Does; rw [h]
  refine hc.mono fun e w'' he => ?_
  obtain ⟨v, rfl, hv⟩ := hr e w'' he
  exact hv
/-- No panic is let by. -/
def NoE (_ : List PanicEntry) (_ : World) : Prop := False
end Go.Proofs.YtcobmbclhhimjaaGreat.Rg
/- A region whose order is drawn, by one relation of what is done, what all slots hold, and the world. -/
namespace Go.Proofs.YtcobmbclhhimjaaGreat.Rg
open Go

section
variable {P : Program} {ops : Array Oper} {Q : Exit → Act → World → Prop} {E : List PanicEntry → World → Prop} {J : (Nat → Bool) → (Nat → Value) → World → Prop}

abbrev more (L : Nat → Bool) (i : Nat) : Nat → Bool := fun j => L j || decide (j = i)
abbrev laid (σ : Nat → Value) (d : Option Nat) (v : Value) : Nat → Value := fun s => if d = some s then v else σ s
/-- All that something done waited for is done. -/
def Cl (ops : Array Oper) (L : Nat → Bool) : Prop := ∀ j o, ops[j]? = some o → L j = true → ∀ e ∈ o.after, Region.binds .any e = true → L e.on = true
/-- What one operation is to do. -/
def StepJ (P : Program) (ops : Array Oper) (E : List PanicEntry → World → Prop) (J : (Nat → Bool) → (Nat → Value) → World → Prop) (i : Nat) (o : Oper) : Prop :=
  ∀ (ρ : Operand → Value) (w : World) (L : Nat → Bool), (∀ v, ρ (.const v) = v) → (∀ f, ρ (.func f) = .func (.func f) #[] #[]) → L i = false → (∀ e ∈ o.after, Region.binds .any e = true → L e.on = true) → Cl ops L → J L (fun s => ρ (.tmp s)) w →
    Does P E ρ o w fun v w' => J (more L i) (laid (fun s => ρ (.tmp s)) o.dst v) w'

/-- What is asked of the operations' text: no guard, each waits for earlier ones alone, nobody else writes its slot. -/
def okJ1 (ops : Array Oper) (n i : Nat) : Bool := match ops[i]? with
  | none => true
  | some o => o.guard.isNone && o.after.all (fun e => decide (e.on < i)) &&
      (match o.dst with
        | none => true
        | some d => decide (d < n) && (List.range ops.size).all fun j => decide (j = i) || !(decide (dstAt ops j = some d)))
def okJ (ops : Array Oper) (n : Nat) : Bool := (List.range ops.size).all (okJ1 ops n)
theorem okJ_at {n i : Nat} {o : Oper} (h : okJ ops n = true) (hi : ops[i]? = some o) :
    o.guard = none ∧ (∀ e ∈ o.after, e.on < i) ∧ (∀ d, o.dst = some d → d < n ∧ ∀ j, j ≠ i → dstAt ops j ≠ some d) := by
  have hlt : i < ops.size := (Array.getElem?_eq_some_iff.1 hi).1
  have h1 := List.all_eq_true.1 h i (List.mem_range.2 hlt)
  unfold okJ1 at h1
  rw [hi] at h1
  simp only [Bool.and_eq_true] at h1
  obtain ⟨⟨h2, h3⟩, h5⟩ := h1
  have hj : ∀ j s, dstAt ops j = some s → j < ops.size := by
    intro j s hs
    unfold dstAt at hs
    by_cases hl : j < ops.size
    · exact hl
    · rw [Array.getElem?_eq_none (by omega)] at hs; cases hs
  refine ⟨by simpa using h2, fun e he => by simpa using Array.all_eq_true_iff_forall_mem.1 h3 e he, fun d hd => ?_⟩
  rw [hd] at h5
  simp only [Bool.and_eq_true, decide_eq_true_eq] at h5
  refine ⟨h5.1, fun j hji hdj => ?_⟩
  have h6 := List.all_eq_true.1 h5.2 j (List.mem_range.2 (hj j d hdj))
  simp [hji, hdj] at h6
theorem readyJ_none {listed : Array Bool} {n : Nat} (hok : okJ ops n = true) (hsz : listed.size = ops.size) (h : Region.ready .any ops listed = []) : ∀ i, i < ops.size → listed.getD i false = true := by
  intro i
  induction i using Nat.strongRecOn with
  | _ i ih =>
    intro hi
    apply Classical.byContradiction
    intro hn
    have ho : ops[i]? = some ops[i] := by simp [hi]
    obtain ⟨-, h2, -⟩ := okJ_at hok ho
    have hr : i ∈ Region.ready .any ops listed := mem_ready.2 ⟨by simpa [hsz, hi] using hn, ops[i], ho, fun e he _ => by
      have := ih e.on (h2 e he) (by have := h2 e he; omega)
      simpa using this⟩
    rw [h] at hr
    cases hr
structure Jj (ops : Array Oper) (J : (Nat → Bool) → (Nat → Value) → World → Prop) (a0 : Act) (listed : Array Bool) (a : Act) (w : World) : Prop where
  size : a.tmps.size = a0.tmps.size
  defers : a.defers = a0.defers
  lsz : listed.size = ops.size
  cl : Cl ops fun j => listed.getD j false
  inv : J (fun j => listed.getD j false) (fun s => a.tmps.getD s undef) w
  old : ∀ s, (∀ j, dstAt ops j ≠ some s) → a.tmps.getD s undef = a0.tmps.getD s undef

theorem Jj.put {a0 a : Act} {listed : Array Bool} {w w' : World} {i : Nat} {o : Oper} {v : Value} (hJ : Jj ops J a0 listed a w) (hok : okJ ops a0.tmps.size = true) (hi : ops[i]? = some o) (hdone : ∀ e ∈ o.after, Region.binds .any e = true → listed.getD e.on false = true)
    (hI : J (more (fun j => listed.getD j false) i) (laid (fun s => a.tmps.getD s undef) o.dst v) w') : Jj ops J a0 (listed.setIfInBounds i true) (a.put o.dst v) w' := by
  obtain ⟨-, -, h4⟩ := okJ_at hok hi
  have hlt : i < ops.size := (Array.getElem?_eq_some_iff.1 hi).1
  have hdi : dstAt ops i = o.dst := by unfold dstAt; rw [hi]; rfl
  have hother : ∀ s, o.dst ≠ some s → (a.put o.dst v).tmps.getD s undef = a.tmps.getD s undef := by
    intro s hs
    cases hd : o.dst with
    | none => rfl
    | some d =>
      rw [hd] at hs
      exact getD_setOff _ _ _ _ _ (fun e => hs (by rw [e]))
  refine ⟨?_, ?_, by simpa using hJ.lsz, ?_, ?_, fun s hs => ?_⟩
  · cases hd : o.dst with
    | none => exact hJ.size
    | some d => simpa [Act.put] using hJ.size
  · cases hd : o.dst with
    | none => exact hJ.defers
    | some d => exact hJ.defers
  · intro j o' ho' hj e he hb
    have up : ∀ k, listed.getD k false = true → (listed.setIfInBounds i true).getD k false = true := by
      intro k hk
      by_cases hz : i = k
      · subst hz; rw [getD_setIn _ _ _ _ (by rw [hJ.lsz]; exact hlt)]
      · rw [getD_setOff _ _ _ _ _ hz]; exact hk
    by_cases hz : i = j
    · subst hz
      rw [hi] at ho'
      cases ho'
      exact up _ (hdone e he hb)
    · exact up _ (hJ.cl j o' ho' (by simpa [getD_setOff _ _ _ _ _ hz] using hj) e he hb)
  · have e : (fun j => (listed.setIfInBounds i true).getD j false) = more (fun j => listed.getD j false) i := by
      funext j
      by_cases hz : i = j
      · subst hz
        rw [getD_setIn _ _ _ _ (by rw [hJ.lsz]; exact hlt)]
        simp [more]
      · rw [getD_setOff _ _ _ _ _ hz]
        simp [more, Ne.symm hz]
    have e2 : (fun s => (a.put o.dst v).tmps.getD s undef) = laid (fun s => a.tmps.getD s undef) o.dst v := by
      funext s
      unfold laid
      by_cases hs : o.dst = some s
      · rw [if_pos hs]
        have hd := (h4 s hs).1
        rw [hs]
        show (a.tmps.setIfInBounds s v).getD s undef = v
        rw [getD_setIn _ _ _ _ (by rw [hJ.size]; exact hd)]
      · rw [if_neg hs, hother s hs]
    rw [e, e2]
    exact hI
  · rw [hother s (by rw [← hdi]; exact hs i)]
    exact hJ.old s hs

theorem Jj.step {a0 a : Act} {listed : Array Bool} {w : World} {i : Nat} (hJ : Jj ops J a0 listed a w) (hok : okJ ops a0.tmps.size = true) (hstep : ∀ (i : Nat) (o : Oper), ops[i]? = some o → StepJ P ops E J i o)
    (hE : ∀ c a w, a.defers = a0.defers → E c w → Q (.panic c) a w) (hr : i ∈ Region.ready .any ops listed) :
    wpOp P ops Q i (fun a' w' => Jj ops J a0 (listed.setIfInBounds i true) a' w') a w := by
  obtain ⟨hun, o, ho, hall⟩ := mem_ready.1 hr
  obtain ⟨h1, -, -⟩ := okJ_at hok ho
  have hlt : i < ops.size := (Array.getElem?_eq_some_iff.1 ho).1
  have hf : listed.getD i false = false := by
    have : i < listed.size := by rw [hJ.lsz]; exact hlt
    simpa [this] using hun
  have hd := hstep i o ho a.eval w (fun j => listed.getD j false) (fun _ => rfl) (fun _ => rfl) hf (fun e he hb => by simpa using hall e he hb) hJ.cl hJ.inv
  unfold wpOp
  simp only [ho]
  have hw : Region.wanted o (yielded ops a.tmps) = true := by unfold Region.wanted; rw [h1]
  rw [if_pos hw]
  refine .inl ?_
  unfold Oper.wp
  unfold Does at hd
  generalize (execOp a.eval o).run P w = r at hd ⊢
  have fin : ∀ v w', J (more (fun j => listed.getD j false) i) (laid (fun s => a.tmps.getD s undef) o.dst v) w' → Jj ops J a0 (listed.setIfInBounds i true) (a.put o.dst v) w' :=
    fun v w' h => hJ.put hok ho (fun e he hb => by simpa using hall e he hb) h
  cases r with
  | ok n w' =>
    cases n <;> simp only [Oper.upon] at hd ⊢
    case value v => exact fin v w' hd
    case skip => exact fin _ w' hd
    case enter f args =>
      refine Calls.mono hd fun e w'' he => ?_
      cases e with
      | returned v => exact fin v w'' he
      | panicked c => exact hE _ _ _ hJ.defers he
      | outgrown => exact he.elim
    all_goals exact hd.elim
  | halt x w' => exact hd.elim

theorem wpAny_j {a0 : Act} (hok : okJ ops a0.tmps.size = true) (hstep : ∀ (i : Nat) (o : Oper), ops[i]? = some o → StepJ P ops E J i o)
    (hE : ∀ c a w, a.defers = a0.defers → E c w → Q (.panic c) a w)
    (hend : ∀ listed a w, Jj ops J a0 listed a w → (∀ i, i < ops.size → listed.getD i false = true) → Q .normal a w) :
    ∀ fuel listed a w, left listed ≤ fuel → Jj ops J a0 listed a w → wpAny P .any ops Q fuel listed a w := by
  intro fuel
  induction fuel with
  | zero =>
    intro listed a w hf hJ
    have hr : Region.ready .any ops listed = [] := by
      apply Classical.byContradiction
      intro hn
      obtain ⟨i, hi⟩ := List.exists_mem_of_ne_nil _ hn
      have := left_set (mem_ready.1 hi).1
      omega
    exact ⟨hr, hend _ _ _ hJ (readyJ_none hok hJ.lsz hr)⟩
  | succ fuel ih =>
    intro listed a w hf hJ
    refine ⟨fun hr => hend _ _ _ hJ (readyJ_none hok hJ.lsz hr), fun i hi => ?_⟩
    refine wpOp_mono (fun a' w' h' => ih _ a' w' ?_ h') (hJ.step hok hstep hE hi)
    have := left_set (mem_ready.1 hi).1
    omega

/-- **A drawn region, by one relation.** -/
theorem region_j {id : Nat} {a : Act} {w : World} (E : List PanicEntry → World → Prop) (J : (Nat → Bool) → (Nat → Value) → World → Prop) (hm : P.follows .mixedOrders = true) (hok : okJ ops a.tmps.size = true)
    (hI : J (fun _ => false) (fun s => a.tmps.getD s undef) { w with drawn := w.drawn + 1 })
    (hstep : ∀ (i : Nat) (o : Oper), ops[i]? = some o → StepJ P ops E J i o)
    (hE : ∀ c a' w, a'.defers = a.defers → E c w → Q (.panic c) a' w)
    (hend : ∀ a' w', a'.tmps.size = a.tmps.size → a'.defers = a.defers → (∃ L, (∀ j, j < ops.size → L j = true) ∧ J L (fun s => a'.tmps.getD s undef) w') → (∀ s, (∀ j, dstAt ops j ≠ some s) → a'.tmps.getD s undef = a.tmps.getD s undef) → Q .normal a' w') :
    (Code.region id ops true).wp P Q a w := by
  refine wp_region_any hm (wpAny_j (a0 := a) (J := J) hok hstep hE (fun listed a' w' hJ hall => hend a' w' hJ.size hJ.defers ⟨_, hall, hJ.inv⟩ hJ.old) ops.size _ a _ ?_ ⟨rfl, rfl, by simp, ?_, ?_, fun s hs => rfl⟩)
  · unfold left
    refine Nat.le_trans (List.length_filter_le _ _) ?_
    simp
  · intro j o _ hj
    exfalso
    by_cases hz : j < ops.size
    · simp [hz] at hj
    · simp [hz] at hj
  · have e : (fun j => (Array.replicate ops.size false).getD j false) = fun _ => false := by
      funext j
      by_cases hz : j < ops.size
      · simp [hz]
      · simp [hz]
    rw [e]
    exact hI
def AllJ (P : Program) (ops : Array Oper) (E : List PanicEntry → World → Prop) (J : (Nat → Bool) → (Nat → Value) → World → Prop) : Nat → List Oper → Prop
  | _, [] => True
  | i, o :: r => StepJ P ops E J i o ∧ AllJ P ops E J (i + 1) r
theorem all_j : ∀ (l : List Oper) (k : Nat), AllJ P ops E J k l → ∀ (i : Nat) (o : Oper), l[i]? = some o → StepJ P ops E J (k + i) o
  | [], _, _, i, o, h => by simp at h
  | x :: r, k, h, 0, o, ho => by simp at ho; subst ho; exact h.1
  | x :: r, k, h, i + 1, o, ho => by
    have := all_j r (k + 1) h.2 i o (by simpa using ho)
    rwa [show k + 1 + i = k + (i + 1) by omega] at this
theorem steps_j {l : List Oper} (h : AllJ P l.toArray E J 0 l) : ∀ (i : Nat) (o : Oper), l.toArray[i]? = some o → StepJ P l.toArray E J i o := fun i o ho => by
  have := all_j l 0 h i o (by simpa using ho)
  rwa [Nat.zero_add] at this
end
/-- A frame behind a region: the slots that the region may write are whatever they are, all others as they were. -/
def zr (tm : Array Value) (m mx : Nat) : Nat → List Value → List Value
  | _, [] => []
  | k, v :: l => (if k < m ∨ mx < k then v else tm.getD k undef) :: zr tm m mx (k + 1) l
theorem zr_eq {tm : Array Value} {m mx : Nat} : ∀ (l : List Value) (k : Nat), tm.size = k + l.length → (∀ j, k ≤ j → (j < m ∨ mx < j) → tm.getD j undef = l.getD (j - k) undef) → tm.toList.drop k = zr tm m mx k l
  | [], k, hs, _ => by
    unfold zr
    exact List.drop_eq_nil_of_le (by simp at hs; simp; omega)
  | v :: l, k, hs, h => by
    simp only [List.length_cons] at hs
    have hk : k < tm.size := by omega
    have hd : tm.toList.drop k = tm.getD k undef :: tm.toList.drop (k + 1) := by
      rw [List.drop_eq_getElem_cons (by simpa using hk)]
      simp [hk]
    unfold zr
    rw [hd, zr_eq l (k + 1) (by omega) fun j hj hc => by
      have := h j (by omega) hc
      rw [this]
      have e : j - k = (j - (k + 1)) + 1 := by omega
      rw [e]
      rfl]
    have hv : tm.getD k undef = (if k < m ∨ mx < k then v else tm.getD k undef) := by
      by_cases hc : k < m ∨ mx < k
      · rw [if_pos hc, h k (Nat.le_refl _) hc, Nat.sub_self]
        rfl
      · rw [if_neg hc]
    rw [← hv]
def okRange (ops : Array Oper) (m mx : Nat) : Bool := (List.range ops.size).all fun j => match dstAt ops j with
  | none => true
  | some d => decide (m ≤ d) && decide (d ≤ mx)
theorem range_of {ops : Array Oper} {m mx : Nat} (h : okRange ops m mx = true) {s : Nat} (hs : s < m ∨ mx < s) : ∀ j, dstAt ops j ≠ some s := by
  intro j hj
  have hl : j < ops.size := by
    unfold dstAt at hj
    by_cases hl : j < ops.size
    · exact hl
    · rw [Array.getElem?_eq_none (by omega)] at hj; cases hj
  have h1 := List.all_eq_true.1 h j (List.mem_range.2 hl)
  have h2 : m ≤ s ∧ s ≤ mx := by simpa [hj] using h1
  omega
theorem frame_keep {ops : Array Oper} {tm : Array Value} {l : List Value} (m mx : Nat) (hr : okRange ops m mx = true) (hs : tm.size = l.toArray.size) (hold : ∀ s, (∀ j, dstAt ops j ≠ some s) → tm.getD s undef = l.toArray.getD s undef) : tm = (zr tm m mx 0 l).toArray := by
  have h := zr_eq (tm := tm) (m := m) (mx := mx) l 0 (by simpa using hs) fun j _ hc => by
    rw [hold j (range_of hr hc)]
    simp [Array.getD_eq_getD_getElem?]
  rw [List.drop_zero] at h
  rw [← h]
/-- .. with one slot more that the region may write. -/
def zs (tm : Array Value) (m mx s0 : Nat) : Nat → List Value → List Value
  | _, [] => []
  | k, v :: l => (if (k < m ∨ mx < k) ∧ k ≠ s0 then v else tm.getD k undef) :: zs tm m mx s0 (k + 1) l
theorem zs_eq {tm : Array Value} {m mx s0 : Nat} : ∀ (l : List Value) (k : Nat), tm.size = k + l.length → (∀ j, k ≤ j → ((j < m ∨ mx < j) ∧ j ≠ s0) → tm.getD j undef = l.getD (j - k) undef) → tm.toList.drop k = zs tm m mx s0 k l
  | [], k, hs, _ => by
    unfold zs
    exact List.drop_eq_nil_of_le (by simp at hs; simp; omega)
  | v :: l, k, hs, h => by
    simp only [List.length_cons] at hs
    have hk : k < tm.size := by omega
    have hd : tm.toList.drop k = tm.getD k undef :: tm.toList.drop (k + 1) := by
      rw [List.drop_eq_getElem_cons (by simpa using hk)]
      simp [hk]
    unfold zs
    rw [hd, zs_eq l (k + 1) (by omega) fun j hj hc => by
      have := h j (by omega) hc
      rw [this]
      have e : j - k = (j - (k + 1)) + 1 := by omega
      rw [e]
      rfl]
    have hv : tm.getD k undef = (if (k < m ∨ mx < k) ∧ k ≠ s0 then v else tm.getD k undef) := by
      by_cases hc : (k < m ∨ mx < k) ∧ k ≠ s0
      · rw [if_pos hc, h k (Nat.le_refl _) hc, Nat.sub_self]
        rfl
      · rw [if_neg hc]
    rw [← hv]
def okRange1 (ops : Array Oper) (m mx s0 : Nat) : Bool := (List.range ops.size).all fun j => match dstAt ops j with
  | none => true
  | some d => decide (m ≤ d) && decide (d ≤ mx) || decide (d = s0)
theorem range1_of {ops : Array Oper} {m mx s0 : Nat} (h : okRange1 ops m mx s0 = true) {s : Nat} (hs : (s < m ∨ mx < s) ∧ s ≠ s0) : ∀ j, dstAt ops j ≠ some s := by
  intro j hj
  have hl : j < ops.size := by
    unfold dstAt at hj
    by_cases hl : j < ops.size
    · exact hl
    · rw [Array.getElem?_eq_none (by omega)] at hj; cases hj
  have h1 := List.all_eq_true.1 h j (List.mem_range.2 hl)
  have h2 : (m ≤ s ∧ s ≤ mx) ∨ s = s0 := by simpa [hj] using h1
  omega
theorem frame_keep1 {ops : Array Oper} {tm : Array Value} {l : List Value} (m mx s0 : Nat) (hr : okRange1 ops m mx s0 = true) (hs : tm.size = l.toArray.size) (hold : ∀ s, (∀ j, dstAt ops j ≠ some s) → tm.getD s undef = l.toArray.getD s undef) : tm = (zs tm m mx s0 0 l).toArray := by
  have h := zs_eq (tm := tm) (m := m) (mx := mx) (s0 := s0) l 0 (by simpa using hs) fun j _ hc => by
    rw [hold j (range1_of hr hc)]
    simp [Array.getD_eq_getD_getElem?]
  rw [List.drop_zero] at h
  rw [← h]
end Go.Proofs.YtcobmbclhhimjaaGreat.Rg
/- A drawn region that appends: what is laid once, what stands ahead of the append, what behind it. -/
namespace Go.Proofs.YtcobmbclhhimjaaGreat
open Go.RowKit
open Rg

theorem more_ne {L : Nat → Bool} {i j : Nat} (h : more L i j = true) (hj : j ≠ i) : L j = true := by simpa [more, hj] using h
theorem more_at {L : Nat → Bool} {i : Nat} : more L i i = true := by simp [more]
theorem more_off {L : Nat → Bool} {i j : Nat} (hj : j ≠ i) : more L i j = L j := by simp [more, hj]
theorem laid_ne {σ : Nat → Value} {d : Option Nat} {v : Value} {s : Nat} (h : d ≠ some s) : laid σ d v s = σ s := if_neg h
theorem laid_eq {σ : Nat → Value} {v : Value} {s : Nat} : laid σ (some s) v s = v := if_pos rfl
theorem does_skip {P : Program} {E : List PanicEntry → World → Prop} {ρ : Operand → Value} {o : Oper} {w w' : World} {R : Value → World → Prop} (h : (execOp ρ o).run P w = .ok .skip w') (hr : R undef w') : Does P E ρ o w R := by
  unfold Does; rw [h]; exact hr
/-- tab: the values that do not hang on the order; base: slots that nobody writes. -/
structure Jr (tab : Nat → Option (Nat × Value)) (base : List (Nat × Value)) (ai : Nat) (A B : (Nat → Bool) → (Nat → Value) → World → Prop) (L : Nat → Bool) (σ : Nat → Value) (W : World) : Prop where
  base : ∀ p ∈ base, σ p.1 = p.2
  vals : ∀ j d v, tab j = some (d, v) → L j = true → σ d = v
  ahead : L ai = false → A L σ W
  behind : L ai = true → B L σ W
section
variable {tab : Nat → Option (Nat × Value)} {base : List (Nat × Value)} {ai : Nat} {A B : (Nat → Bool) → (Nat → Value) → World → Prop} {L : Nat → Bool} {σ : Nat → Value} {W W' : World} {i d : Nat} {v : Value}
/-- An operation whose value does not hang on the order. -/
theorem Jr.pure (h : Jr tab base ai A B L σ W) (hi : tab i = some (d, v)) (hinj : ∀ j d' v', tab j = some (d', v') → d' = d → j = i) (hb : ∀ p ∈ base, p.1 ≠ d) (hia : i ≠ ai) (hA : A L σ W → A (more L i) (laid σ (some d) v) W) (hB : B L σ W → B (more L i) (laid σ (some d) v) W) : Jr tab base ai A B (more L i) (laid σ (some d) v) W := by
  refine ⟨fun p hp => ?_, fun j d' v' hj hL => ?_, fun e => ?_, fun e => ?_⟩
  · rw [laid_ne (by intro e; cases e; exact hb p hp rfl)]
    exact h.base p hp
  · by_cases hd : d' = d
    · subst hd
      have hji := hinj j d' v' hj rfl
      subst hji
      rw [hi] at hj
      cases hj
      exact laid_eq
    · rw [laid_ne (by intro e; cases e; exact hd rfl)]
      refine h.vals j d' v' hj (more_ne hL fun e => ?_)
      subst e
      rw [hi] at hj
      cases hj
      exact hd rfl
  · rw [more_off (Ne.symm hia)] at e
    exact hA (h.ahead e)
  · rw [more_off (Ne.symm hia)] at e
    exact hB (h.behind e)
/-- An operation with a value of its own, that is not among the table's. -/
theorem Jr.other (h : Jr tab base ai A B L σ W) {d : Option Nat} (hi : tab i = none) (hinj : ∀ j d' v', tab j = some (d', v') → d ≠ some d') (hb : ∀ p ∈ base, d ≠ some p.1) (hA : more L i ai = false → A (more L i) (laid σ d v) W') (hB : more L i ai = true → B (more L i) (laid σ d v) W') : Jr tab base ai A B (more L i) (laid σ d v) W' := by
  refine ⟨fun p hp => ?_, fun j d' v' hj hL => ?_, hA, hB⟩
  · rw [laid_ne (hb p hp)]
    exact h.base p hp
  · rw [laid_ne (hinj j d' v' hj)]
    refine h.vals j d' v' hj (more_ne hL fun e => ?_)
    subst e
    rw [hi] at hj
    cases hj
end
end Go.Proofs.YtcobmbclhhimjaaGreat
/- A region whose order is drawn, by one relation of what is done, what all slots hold, and the world. -/
namespace Go.Proofs.YtcobmbclhhimjaaGreat.Rg2
open Go Go.Proofs.YtcobmbclhhimjaaGreat.Rg

section
variable {P : Program} {ops : Array Oper} {Q : Exit → Act → World → Prop} {E : List PanicEntry → World → Prop} {J : (Nat → Bool) → (Nat → Value) → World → Prop}

abbrev more (L : Nat → Bool) (i : Nat) : Nat → Bool := fun j => L j || decide (j = i)
abbrev laid (σ : Nat → Value) (d : Option Nat) (v : Value) : Nat → Value := fun s => if d = some s then v else σ s
/-- All that something done waited for is done. -/
def Cl (ops : Array Oper) (L : Nat → Bool) : Prop := ∀ j o, ops[j]? = some o → L j = true → ∀ e ∈ o.after, Region.binds .any e = true → L e.on = true
/-- What one operation is to do. -/
def StepJ (P : Program) (ops : Array Oper) (E : List PanicEntry → World → Prop) (J : (Nat → Bool) → (Nat → Value) → World → Prop) (i : Nat) (o : Oper) : Prop :=
  ∀ (ρ : Operand → Value) (w : World) (L : Nat → Bool), (∀ v, ρ (.const v) = v) → (∀ f, ρ (.func f) = .func (.func f) #[] #[]) → L i = false → (∀ e ∈ o.after, Region.binds .any e = true → L e.on = true) → Cl ops L → J L (fun s => ρ (.tmp s)) w →
    Does P E ρ o w fun v w' => J (more L i) (laid (fun s => ρ (.tmp s)) o.dst v) w'

/-- What is asked of the operations' text: no guard, each waits for earlier ones alone, nobody else writes its slot. -/
def okJ1 (ops : Array Oper) (n i : Nat) : Bool := match ops[i]? with
  | none => true
  | some o => o.guard.isNone && o.after.all (fun e => !Region.binds .any e || decide (e.on < i)) &&
      (match o.dst with
        | none => true
        | some d => decide (d < n) && (List.range ops.size).all fun j => decide (j = i) || !(decide (dstAt ops j = some d)))
def okJ (ops : Array Oper) (n : Nat) : Bool := (List.range ops.size).all (okJ1 ops n)
theorem okJ_at {n i : Nat} {o : Oper} (h : okJ ops n = true) (hi : ops[i]? = some o) :
    o.guard = none ∧ (∀ e ∈ o.after, Region.binds .any e = true → e.on < i) ∧ (∀ d, o.dst = some d → d < n ∧ ∀ j, j ≠ i → dstAt ops j ≠ some d) := by
  have hlt : i < ops.size := (Array.getElem?_eq_some_iff.1 hi).1
  have h1 := List.all_eq_true.1 h i (List.mem_range.2 hlt)
  unfold okJ1 at h1
  rw [hi] at h1
  simp only [Bool.and_eq_true] at h1
  obtain ⟨⟨h2, h3⟩, h5⟩ := h1
  have hj : ∀ j s, dstAt ops j = some s → j < ops.size := by
    intro j s hs
    unfold dstAt at hs
    by_cases hl : j < ops.size
    · exact hl
    · rw [Array.getElem?_eq_none (by omega)] at hs; cases hs
  refine ⟨by simpa using h2, fun e he hb => by have h9 := Array.all_eq_true_iff_forall_mem.1 h3 e he; rw [hb] at h9; simpa using h9, fun d hd => ?_⟩
  rw [hd] at h5
  simp only [Bool.and_eq_true, decide_eq_true_eq] at h5
  refine ⟨h5.1, fun j hji hdj => ?_⟩
  have h6 := List.all_eq_true.1 h5.2 j (List.mem_range.2 (hj j d hdj))
  simp [hji, hdj] at h6
theorem readyJ_none {listed : Array Bool} {n : Nat} (hok : okJ ops n = true) (hsz : listed.size = ops.size) (h : Region.ready .any ops listed = []) : ∀ i, i < ops.size → listed.getD i false = true := by
  intro i
  induction i using Nat.strongRecOn with
  | _ i ih =>
    intro hi
    apply Classical.byContradiction
    intro hn
    have ho : ops[i]? = some ops[i] := by simp [hi]
    obtain ⟨-, h2, -⟩ := okJ_at hok ho
    have hr : i ∈ Region.ready .any ops listed := mem_ready.2 ⟨by simpa [hsz, hi] using hn, ops[i], ho, fun e he hb => by
      have := ih e.on (h2 e he hb) (by have := h2 e he hb; omega)
      simpa using this⟩
    rw [h] at hr
    cases hr
structure Jj (ops : Array Oper) (J : (Nat → Bool) → (Nat → Value) → World → Prop) (a0 : Act) (listed : Array Bool) (a : Act) (w : World) : Prop where
  size : a.tmps.size = a0.tmps.size
  defers : a.defers = a0.defers
  lsz : listed.size = ops.size
  cl : Cl ops fun j => listed.getD j false
  inv : J (fun j => listed.getD j false) (fun s => a.tmps.getD s undef) w
  old : ∀ s, (∀ j, dstAt ops j ≠ some s) → a.tmps.getD s undef = a0.tmps.getD s undef

theorem Jj.put {a0 a : Act} {listed : Array Bool} {w w' : World} {i : Nat} {o : Oper} {v : Value} (hJ : Jj ops J a0 listed a w) (hok : okJ ops a0.tmps.size = true) (hi : ops[i]? = some o) (hdone : ∀ e ∈ o.after, Region.binds .any e = true → listed.getD e.on false = true)
    (hI : J (more (fun j => listed.getD j false) i) (laid (fun s => a.tmps.getD s undef) o.dst v) w') : Jj ops J a0 (listed.setIfInBounds i true) (a.put o.dst v) w' := by
  obtain ⟨-, -, h4⟩ := okJ_at hok hi
  have hlt : i < ops.size := (Array.getElem?_eq_some_iff.1 hi).1
  have hdi : dstAt ops i = o.dst := by unfold dstAt; rw [hi]; rfl
  have hother : ∀ s, o.dst ≠ some s → (a.put o.dst v).tmps.getD s undef = a.tmps.getD s undef := by
    intro s hs
    cases hd : o.dst with
    | none => rfl
    | some d =>
      rw [hd] at hs
      exact getD_setOff _ _ _ _ _ (fun e => hs (by rw [e]))
  refine ⟨?_, ?_, by simpa using hJ.lsz, ?_, ?_, fun s hs => ?_⟩
  · cases hd : o.dst with
    | none => exact hJ.size
    | some d => simpa [Act.put] using hJ.size
  · cases hd : o.dst with
    | none => exact hJ.defers
    | some d => exact hJ.defers
  · intro j o' ho' hj e he hb
    have up : ∀ k, listed.getD k false = true → (listed.setIfInBounds i true).getD k false = true := by
      intro k hk
      by_cases hz : i = k
      · subst hz; rw [getD_setIn _ _ _ _ (by rw [hJ.lsz]; exact hlt)]
      · rw [getD_setOff _ _ _ _ _ hz]; exact hk
    by_cases hz : i = j
    · subst hz
      rw [hi] at ho'
      cases ho'
      exact up _ (hdone e he hb)
    · exact up _ (hJ.cl j o' ho' (by simpa [getD_setOff _ _ _ _ _ hz] using hj) e he hb)
  · have e : (fun j => (listed.setIfInBounds i true).getD j false) = more (fun j => listed.getD j false) i := by
      funext j
      by_cases hz : i = j
      · subst hz
        rw [getD_setIn _ _ _ _ (by rw [hJ.lsz]; exact hlt)]
        simp [more]
      · rw [getD_setOff _ _ _ _ _ hz]
        simp [more, Ne.symm hz]
    have e2 : (fun s => (a.put o.dst v).tmps.getD s undef) = laid (fun s => a.tmps.getD s undef) o.dst v := by
      funext s
      unfold laid
      by_cases hs : o.dst = some s
      · rw [if_pos hs]
        have hd := (h4 s hs).1
        rw [hs]
        show (a.tmps.setIfInBounds s v).getD s undef = v
        rw [getD_setIn _ _ _ _ (by rw [hJ.size]; exact hd)]
      · rw [if_neg hs, hother s hs]
    rw [e, e2]
    exact hI
  · rw [hother s (by rw [← hdi]; exact hs i)]
    exact hJ.old s hs

theorem Jj.step {a0 a : Act} {listed : Array Bool} {w : World} {i : Nat} (hJ : Jj ops J a0 listed a w) (hok : okJ ops a0.tmps.size = true) (hstep : ∀ (i : Nat) (o : Oper), ops[i]? = some o → StepJ P ops E J i o)
    (hE : ∀ c a w, a.defers = a0.defers → E c w → Q (.panic c) a w) (hr : i ∈ Region.ready .any ops listed) :
    wpOp P ops Q i (fun a' w' => Jj ops J a0 (listed.setIfInBounds i true) a' w') a w := by
  obtain ⟨hun, o, ho, hall⟩ := mem_ready.1 hr
  obtain ⟨h1, -, -⟩ := okJ_at hok ho
  have hlt : i < ops.size := (Array.getElem?_eq_some_iff.1 ho).1
  have hf : listed.getD i false = false := by
    have : i < listed.size := by rw [hJ.lsz]; exact hlt
    simpa [this] using hun
  have hd := hstep i o ho a.eval w (fun j => listed.getD j false) (fun _ => rfl) (fun _ => rfl) hf (fun e he hb => by simpa using hall e he hb) hJ.cl hJ.inv
  unfold wpOp
  simp only [ho]
  have hw : Region.wanted o (yielded ops a.tmps) = true := by unfold Region.wanted; rw [h1]
  rw [if_pos hw]
  refine .inl ?_
  unfold Oper.wp
  unfold Does at hd
  generalize (execOp a.eval o).run P w = r at hd ⊢
  have fin : ∀ v w', J (more (fun j => listed.getD j false) i) (laid (fun s => a.tmps.getD s undef) o.dst v) w' → Jj ops J a0 (listed.setIfInBounds i true) (a.put o.dst v) w' :=
    fun v w' h => hJ.put hok ho (fun e he hb => by simpa using hall e he hb) h
  cases r with
  | ok n w' =>
    cases n <;> simp only [Oper.upon] at hd ⊢
    case value v => exact fin v w' hd
    case skip => exact fin _ w' hd
    case enter f args =>
      refine Calls.mono hd fun e w'' he => ?_
      cases e with
      | returned v => exact fin v w'' he
      | panicked c => exact hE _ _ _ hJ.defers he
      | outgrown => exact he.elim
    all_goals exact hd.elim
  | halt x w' => exact hd.elim

theorem wpAny_j {a0 : Act} (hok : okJ ops a0.tmps.size = true) (hstep : ∀ (i : Nat) (o : Oper), ops[i]? = some o → StepJ P ops E J i o)
    (hE : ∀ c a w, a.defers = a0.defers → E c w → Q (.panic c) a w)
    (hend : ∀ listed a w, Jj ops J a0 listed a w → (∀ i, i < ops.size → listed.getD i false = true) → Q .normal a w) :
    ∀ fuel listed a w, left listed ≤ fuel → Jj ops J a0 listed a w → wpAny P .any ops Q fuel listed a w := by
  intro fuel
  induction fuel with
  | zero =>
    intro listed a w hf hJ
    have hr : Region.ready .any ops listed = [] := by
      apply Classical.byContradiction
      intro hn
      obtain ⟨i, hi⟩ := List.exists_mem_of_ne_nil _ hn
      have := left_set (mem_ready.1 hi).1
      omega
    exact ⟨hr, hend _ _ _ hJ (readyJ_none hok hJ.lsz hr)⟩
  | succ fuel ih =>
    intro listed a w hf hJ
    refine ⟨fun hr => hend _ _ _ hJ (readyJ_none hok hJ.lsz hr), fun i hi => ?_⟩
    refine wpOp_mono (fun a' w' h' => ih _ a' w' ?_ h') (hJ.step hok hstep hE hi)
    have := left_set (mem_ready.1 hi).1
    omega

/-- **A drawn region, by one relation.** -/
theorem region_j {id : Nat} {a : Act} {w : World} (E : List PanicEntry → World → Prop) (J : (Nat → Bool) → (Nat → Value) → World → Prop) (hm : P.follows .mixedOrders = true) (hok : okJ ops a.tmps.size = true)
    (hI : J (fun _ => false) (fun s => a.tmps.getD s undef) { w with drawn := w.drawn + 1 })
    (hstep : ∀ (i : Nat) (o : Oper), ops[i]? = some o → StepJ P ops E J i o)
    (hE : ∀ c a' w, a'.defers = a.defers → E c w → Q (.panic c) a' w)
    (hend : ∀ a' w', a'.tmps.size = a.tmps.size → a'.defers = a.defers → (∃ L, (∀ j, j < ops.size → L j = true) ∧ J L (fun s => a'.tmps.getD s undef) w') → (∀ s, (∀ j, dstAt ops j ≠ some s) → a'.tmps.getD s undef = a.tmps.getD s undef) → Q .normal a' w') :
    (Code.region id ops true).wp P Q a w := by
  refine wp_region_any hm (wpAny_j (a0 := a) (J := J) hok hstep hE (fun listed a' w' hJ hall => hend a' w' hJ.size hJ.defers ⟨_, hall, hJ.inv⟩ hJ.old) ops.size _ a _ ?_ ⟨rfl, rfl, by simp, ?_, ?_, fun s hs => rfl⟩)
  · unfold left
    refine Nat.le_trans (List.length_filter_le _ _) ?_
    simp
  · intro j o _ hj
    exfalso
    by_cases hz : j < ops.size
    · simp [hz] at hj
    · simp [hz] at hj
  · have e : (fun j => (Array.replicate ops.size false).getD j false) = fun _ => false := by
      funext j
      by_cases hz : j < ops.size
      · simp [hz]
      · simp [hz]
    rw [e]
    exact hI
def AllJ (P : Program) (ops : Array Oper) (E : List PanicEntry → World → Prop) (J : (Nat → Bool) → (Nat → Value) → World → Prop) : Nat → List Oper → Prop
  | _, [] => True
  | i, o :: r => StepJ P ops E J i o ∧ AllJ P ops E J (i + 1) r
theorem all_j : ∀ (l : List Oper) (k : Nat), AllJ P ops E J k l → ∀ (i : Nat) (o : Oper), l[i]? = some o → StepJ P ops E J (k + i) o
  | [], _, _, i, o, h => by simp at h
  | x :: r, k, h, 0, o, ho => by simp at ho; subst ho; exact h.1
  | x :: r, k, h, i + 1, o, ho => by
    have := all_j r (k + 1) h.2 i o (by simpa using ho)
    rwa [show k + 1 + i = k + (i + 1) by omega] at this
theorem steps_j {l : List Oper} (h : AllJ P l.toArray E J 0 l) : ∀ (i : Nat) (o : Oper), l.toArray[i]? = some o → StepJ P l.toArray E J i o := fun i o ho => by
  have := all_j l 0 h i o (by simpa using ho)
  rwa [Nat.zero_add] at this
end
end Go.Proofs.YtcobmbclhhimjaaGreat.Rg2
