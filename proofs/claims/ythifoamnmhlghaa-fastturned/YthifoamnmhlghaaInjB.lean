/- A region whose order is drawn, by one relation of what is done, what all slots hold, and the world. -/
import Derived.Test.YthifoamnmhlghaaInv9
import Derived.Test.YthifoamnmhlghaaMem
namespace Go.Proofs.Ythifoamnmhlghaa.Rg2
open Go Go.Proofs.Ythifoamnmhlghaa.Rg

section
variable {P : Program} {ops : Array Oper} {Q : Exit → Act → World → Prop} {E : List PanicEntry → World → Prop} {J : (Nat → Bool) → (Nat → Value) → World → Prop}

abbrev more (L : Nat → Bool) (i : Nat) : Nat → Bool := fun j => L j || decide (j = i)
abbrev laid (σ : Nat → Value) (d : Option Nat) (v : Value) : Nat → Value := fun s => if d = some s then v else σ s
/-- All that something done waited for is done. -/
def Cl (ops : Array Oper) (L : Nat → Bool) : Prop := ∀ j o, ops[j]? = some o → L j = true → ∀ e ∈ o.after, Region.binds .any e = true → L e.on = true
/-- What one operation is to do. -/
def StepJ (P : Program) (ops : Array Oper) (E : List PanicEntry → World → Prop) (J : (Nat → Bool) → (Nat → Value) → World → Prop) (i : Nat) (o : Oper) : Prop :=
  ∀ (ρ : Operand → Value) (w : World) (L : Nat → Bool), (∀ v, ρ (.const v) = v) → (∀ f, ρ (.func f) = .func (.func f) #[] #[]) → L i = false → (∀ e ∈ o.after, Region.binds .any e = true → L e.on = true) → Cl ops L → J L (fun s => ρ (.tmp s)) w →
    Does P E ρ o w fun v w' => J (more L i) (laid (fun s => ρ (.tmp s)) o.dst v) w'

/-- What is asked of the operations' text: no guard, each waits for earlier ones alone, nobody else writes its slot. -/
def okJ1 (ops : Array Oper) (n i : Nat) : Bool := match ops[i]? with
  | none => true
  | some o => o.guard.isNone && o.after.all (fun e => !Region.binds .any e || decide (e.on < i)) &&
      (match o.dst with
        | none => true
        | some d => decide (d < n) && (List.range ops.size).all fun j => decide (j = i) || !(decide (dstAt ops j = some d)))
def okJ (ops : Array Oper) (n : Nat) : Bool := (List.range ops.size).all (okJ1 ops n)
theorem okJ_at {n i : Nat} {o : Oper} (h : okJ ops n = true) (hi : ops[i]? = some o) :
    o.guard = none ∧ (∀ e ∈ o.after, Region.binds .any e = true → e.on < i) ∧ (∀ d, o.dst = some d → d < n ∧ ∀ j, j ≠ i → dstAt ops j ≠ some d) := by
  have hlt : i < ops.size := (Array.getElem?_eq_some_iff.1 hi).1
  have h1 := List.all_eq_true.1 h i (List.mem_range.2 hlt)
  unfold okJ1 at h1
  rw [hi] at h1
  simp only [Bool.and_eq_true] at h1
  obtain ⟨⟨h2, h3⟩, h5⟩ := h1
  have hj : ∀ j s, dstAt ops j = some s → j < ops.size := by
    intro j s hs
    unfold dstAt at hs
    by_cases hl : j < ops.size
    · exact hl
    · rw [Array.getElem?_eq_none (by omega)] at hs; cases hs
  refine ⟨by simpa using h2, fun e he hb => by have h9 := Array.all_eq_true_iff_forall_mem.1 h3 e he; rw [hb] at h9; simpa using h9, fun d hd => ?_⟩
  rw [hd] at h5
  simp only [Bool.and_eq_true, decide_eq_true_eq] at h5
  refine ⟨h5.1, fun j hji hdj => ?_⟩
  have h6 := List.all_eq_true.1 h5.2 j (List.mem_range.2 (hj j d hdj))
  simp [hji, hdj] at h6
theorem readyJ_none {listed : Array Bool} {n : Nat} (hok : okJ ops n = true) (hsz : listed.size = ops.size) (h : Region.ready .any ops listed = []) : ∀ i, i < ops.size → listed.getD i false = true := by
  intro i
  induction i using Nat.strongRecOn with
  | _ i ih =>
    intro hi
    apply Classical.byContradiction
    intro hn
    have ho : ops[i]? = some ops[i] := by simp [hi]
    obtain ⟨-, h2, -⟩ := okJ_at hok ho
    have hr : i ∈ Region.ready .any ops listed := mem_ready.2 ⟨by simpa [hsz, hi] using hn, ops[i], ho, fun e he hb => by
      have := ih e.on (h2 e he hb) (by have := h2 e he hb; omega)
      simpa using this⟩
    rw [h] at hr
    cases hr
structure Jj (ops : Array Oper) (J : (Nat → Bool) → (Nat → Value) → World → Prop) (a0 : Act) (listed : Array Bool) (a : Act) (w : World) : Prop where
  size : a.tmps.size = a0.tmps.size
  defers : a.defers = a0.defers
  lsz : listed.size = ops.size
  cl : Cl ops fun j => listed.getD j false
  inv : J (fun j => listed.getD j false) (fun s => a.tmps.getD s undef) w
  old : ∀ s, (∀ j, dstAt ops j ≠ some s) → a.tmps.getD s undef = a0.tmps.getD s undef

theorem Jj.put {a0 a : Act} {listed : Array Bool} {w w' : World} {i : Nat} {o : Oper} {v : Value} (hJ : Jj ops J a0 listed a w) (hok : okJ ops a0.tmps.size = true) (hi : ops[i]? = some o) (hdone : ∀ e ∈ o.after, Region.binds .any e = true → listed.getD e.on false = true)
    (hI : J (more (fun j => listed.getD j false) i) (laid (fun s => a.tmps.getD s undef) o.dst v) w') : Jj ops J a0 (listed.setIfInBounds i true) (a.put o.dst v) w' := by
  obtain ⟨-, -, h4⟩ := okJ_at hok hi
  have hlt : i < ops.size := (Array.getElem?_eq_some_iff.1 hi).1
  have hdi : dstAt ops i = o.dst := by unfold dstAt; rw [hi]; rfl
  have hother : ∀ s, o.dst ≠ some s → (a.put o.dst v).tmps.getD s undef = a.tmps.getD s undef := by
    intro s hs
    cases hd : o.dst with
    | none => rfl
    | some d =>
      rw [hd] at hs
      exact getD_setOff _ _ _ _ _ (fun e => hs (by rw [e]))
  refine ⟨?_, ?_, by simpa using hJ.lsz, ?_, ?_, fun s hs => ?_⟩
  · cases hd : o.dst with
    | none => exact hJ.size
    | some d => simpa [Act.put] using hJ.size
  · cases hd : o.dst with
    | none => exact hJ.defers
    | some d => exact hJ.defers
  · intro j o' ho' hj e he hb
    have up : ∀ k, listed.getD k false = true → (listed.setIfInBounds i true).getD k false = true := by
      intro k hk
      by_cases hz : i = k
      · subst hz; rw [getD_setIn _ _ _ _ (by rw [hJ.lsz]; exact hlt)]
      · rw [getD_setOff _ _ _ _ _ hz]; exact hk
    by_cases hz : i = j
    · subst hz
      rw [hi] at ho'
      cases ho'
      exact up _ (hdone e he hb)
    · exact up _ (hJ.cl j o' ho' (by simpa [getD_setOff _ _ _ _ _ hz] using hj) e he hb)
  · have e : (fun j => (listed.setIfInBounds i true).getD j false) = more (fun j => listed.getD j false) i := by
      funext j
      by_cases hz : i = j
      · subst hz
        rw [getD_setIn _ _ _ _ (by rw [hJ.lsz]; exact hlt)]
        simp [more]
      · rw [getD_setOff _ _ _ _ _ hz]
        simp [more, Ne.symm hz]
    have e2 : (fun s => (a.put o.dst v).tmps.getD s undef) = laid (fun s => a.tmps.getD s undef) o.dst v := by
      funext s
      unfold laid
      by_cases hs : o.dst = some s
      · rw [if_pos hs]
        have hd := (h4 s hs).1
        rw [hs]
        show (a.tmps.setIfInBounds s v).getD s undef = v
        rw [getD_setIn _ _ _ _ (by rw [hJ.size]; exact hd)]
      · rw [if_neg hs, hother s hs]
    rw [e, e2]
    exact hI
  · rw [hother s (by rw [← hdi]; exact hs i)]
    exact hJ.old s hs

theorem Jj.step {a0 a : Act} {listed : Array Bool} {w : World} {i : Nat} (hJ : Jj ops J a0 listed a w) (hok : okJ ops a0.tmps.size = true) (hstep : ∀ (i : Nat) (o : Oper), ops[i]? = some o → StepJ P ops E J i o)
    (hE : ∀ c a w, a.defers = a0.defers → E c w → Q (.panic c) a w) (hr : i ∈ Region.ready .any ops listed) :
    wpOp P ops Q i (fun a' w' => Jj ops J a0 (listed.setIfInBounds i true) a' w') a w := by
  obtain ⟨hun, o, ho, hall⟩ := mem_ready.1 hr
  obtain ⟨h1, -, -⟩ := okJ_at hok ho
  have hlt : i < ops.size := (Array.getElem?_eq_some_iff.1 ho).1
  have hf : listed.getD i false = false := by
    have : i < listed.size := by rw [hJ.lsz]; exact hlt
    simpa [this] using hun
  have hd := hstep i o ho a.eval w (fun j => listed.getD j false) (fun _ => rfl) (fun _ => rfl) hf (fun e he hb => by simpa using hall e he hb) hJ.cl hJ.inv
  unfold wpOp
  simp only [ho]
  have hw : Region.wanted o (yielded ops a.tmps) = true := by unfold Region.wanted; rw [h1]
  rw [if_pos hw]
  refine .inl ?_
  unfold Oper.wp
  unfold Does at hd
  generalize (execOp a.eval o).run P w = r at hd ⊢
  have fin : ∀ v w', J (more (fun j => listed.getD j false) i) (laid (fun s => a.tmps.getD s undef) o.dst v) w' → Jj ops J a0 (listed.setIfInBounds i true) (a.put o.dst v) w' :=
    fun v w' h => hJ.put hok ho (fun e he hb => by simpa using hall e he hb) h
  cases r with
  | ok n w' =>
    cases n <;> simp only [Oper.upon] at hd ⊢
    case value v => exact fin v w' hd
    case skip => exact fin _ w' hd
    case enter f args =>
      refine Calls.mono hd fun e w'' he => ?_
      cases e with
      | returned v => exact fin v w'' he
      | panicked c => exact hE _ _ _ hJ.defers he
      | outgrown => exact he.elim
    all_goals exact hd.elim
  | halt x w' => exact hd.elim

theorem wpAny_j {a0 : Act} (hok : okJ ops a0.tmps.size = true) (hstep : ∀ (i : Nat) (o : Oper), ops[i]? = some o → StepJ P ops E J i o)
    (hE : ∀ c a w, a.defers = a0.defers → E c w → Q (.panic c) a w)
    (hend : ∀ listed a w, Jj ops J a0 listed a w → (∀ i, i < ops.size → listed.getD i false = true) → Q .normal a w) :
    ∀ fuel listed a w, left listed ≤ fuel → Jj ops J a0 listed a w → wpAny P .any ops Q fuel listed a w := by
  intro fuel
  induction fuel with
  | zero =>
    intro listed a w hf hJ
    have hr : Region.ready .any ops listed = [] := by
      apply Classical.byContradiction
      intro hn
      obtain ⟨i, hi⟩ := List.exists_mem_of_ne_nil _ hn
      have := left_set (mem_ready.1 hi).1
      omega
    exact ⟨hr, hend _ _ _ hJ (readyJ_none hok hJ.lsz hr)⟩
  | succ fuel ih =>
    intro listed a w hf hJ
    refine ⟨fun hr => hend _ _ _ hJ (readyJ_none hok hJ.lsz hr), fun i hi => ?_⟩
    refine wpOp_mono (fun a' w' h' => ih _ a' w' ?_ h') (hJ.step hok hstep hE hi)
    have := left_set (mem_ready.1 hi).1
    omega

/-- **A drawn region, by one relation.** -/
theorem region_j {id : Nat} {a : Act} {w : World} (E : List PanicEntry → World → Prop) (J : (Nat → Bool) → (Nat → Value) → World → Prop) (hm : P.follows .mixedOrders = true) (hok : okJ ops a.tmps.size = true)
    (hI : J (fun _ => false) (fun s => a.tmps.getD s undef) { w with drawn := w.drawn + 1 })
    (hstep : ∀ (i : Nat) (o : Oper), ops[i]? = some o → StepJ P ops E J i o)
    (hE : ∀ c a' w, a'.defers = a.defers → E c w → Q (.panic c) a' w)
    (hend : ∀ a' w', a'.tmps.size = a.tmps.size → a'.defers = a.defers → (∃ L, (∀ j, j < ops.size → L j = true) ∧ J L (fun s => a'.tmps.getD s undef) w') → (∀ s, (∀ j, dstAt ops j ≠ some s) → a'.tmps.getD s undef = a.tmps.getD s undef) → Q .normal a' w') :
    (Code.region id ops true).wp P Q a w := by
  refine wp_region_any hm (wpAny_j (a0 := a) (J := J) hok hstep hE (fun listed a' w' hJ hall => hend a' w' hJ.size hJ.defers ⟨_, hall, hJ.inv⟩ hJ.old) ops.size _ a _ ?_ ⟨rfl, rfl, by simp, ?_, ?_, fun s hs => rfl⟩)
  · unfold left
    refine Nat.le_trans (List.length_filter_le _ _) ?_
    simp
  · intro j o _ hj
    exfalso
    by_cases hz : j < ops.size
    · simp [hz] at hj
    · simp [hz] at hj
  · have e : (fun j => (Array.replicate ops.size false).getD j false) = fun _ => false := by
      funext j
      by_cases hz : j < ops.size
      · simp [hz]
      · simp [hz]
    rw [e]
    exact hI
def AllJ (P : Program) (ops : Array Oper) (E : List PanicEntry → World → Prop) (J : (Nat → Bool) → (Nat → Value) → World → Prop) : Nat → List Oper → Prop
  | _, [] => True
  | i, o :: r => StepJ P ops E J i o ∧ AllJ P ops E J (i + 1) r
theorem all_j : ∀ (l : List Oper) (k : Nat), AllJ P ops E J k l → ∀ (i : Nat) (o : Oper), l[i]? = some o → StepJ P ops E J (k + i) o
  | [], _, _, i, o, h => by simp at h
  | x :: r, k, h, 0, o, ho => by simp at ho; subst ho; exact h.1
  | x :: r, k, h, i + 1, o, ho => by
    have := all_j r (k + 1) h.2 i o (by simpa using ho)
    rwa [show k + 1 + i = k + (i + 1) by omega] at this
theorem steps_j {l : List Oper} (h : AllJ P l.toArray E J 0 l) : ∀ (i : Nat) (o : Oper), l.toArray[i]? = some o → StepJ P l.toArray E J i o := fun i o ho => by
  have := all_j l 0 h i o (by simpa using ho)
  rwa [Nat.zero_add] at this
end
end Go.Proofs.Ythifoamnmhlghaa.Rg2
