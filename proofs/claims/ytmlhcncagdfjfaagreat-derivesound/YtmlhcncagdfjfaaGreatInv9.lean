import Derived.Orders
import Derived.Test.YtmlhcncagdfjfaaGreatMem
import Derived.Test.YtmlhcncagdfjfaaGreatFsM
namespace Go.Proofs.YtmlhcncagdfjfaaGreat.Rg
open Go
def iw (P : Program) (E : List PanicEntry → World → Prop) (ρ : Operand → Value) (o : Oper) (w : World) (R : Value → World → Prop) : Prop :=
 match (execOp ρ o).run P w with
 | .ok (.value v) w' => R v w'
 | .ok .skip w' => R undef w'
 | .ok (.enter f args) w' => Calls P f args w' fun
     | .returned v, w'' => R v w''
     | .panicked c, w'' => E c w''
     | .outgrown, _ => False
 | _ => False
def mY (o : Oper) : List Tmp := o.op.operands.toList.filterMap fun x => match x with
 | .tmp t => some t
 | _ => none
def bF (ops : Array Oper) (j : Nat) : Option Tmp := (ops[j]?).bind (·.dst)
def yM (ops : Array Oper) (n i : Nat) : Bool := match ops[i]? with
 | none => true
 | some o => o.guard.isNone && o.after.all (fun e => decide (e.on < i)) &&
     (mY o).all (fun s => (List.range ops.size).all fun j => !(decide (bF ops j = some s)) || o.after.any (fun e => decide (e.on = j) && Region.binds .any e)) &&
     (match o.dst with
      | none => true
      | some d => decide (d < n) && (List.range ops.size).all fun j => decide (j = i) || !(decide (bF ops j = some d)))
def wL (ops : Array Oper) (n : Nat) : Bool := (List.range ops.size).all (yM ops n)
section
variable {P : Program} {ops : Array Oper} {Q : Exit → Act → World → Prop} {E : List PanicEntry → World → Prop} {I : (Nat → Bool) → World → Prop} {G : Nat → World → Value → Prop}
def yw (P : Program) (E : List PanicEntry → World → Prop) (I : (Nat → Bool) → World → Prop) (G : Nat → World → Value → Prop) (i : Nat) (o : Oper) : Prop :=
 ∀ (ρ : Operand → Value) (w : World) (L : Nat → Bool), (∀ v, ρ (.const v) = v) → (∀ f, ρ (.func f) = .func (.func f) #[] #[]) → L i = false → (∀ e ∈ o.after, Region.binds .any e = true → L e.on = true) → I L w → (∀ s ∈ mY o, G s w (ρ (.tmp s))) →
  iw P E ρ o w fun v w' => (∀ s, o.dst ≠ some s → ∀ u, G s w u → G s w' u) ∧ I (fun j => L j || decide (j = i)) w' ∧ ∀ d, o.dst = some d → G d w' v
structure Jn (ops : Array Oper) (I : (Nat → Bool) → World → Prop) (G : Nat → World → Value → Prop) (B : List Nat) (a0 : Act) (listed : Array Bool) (a : Act) (w : World) : Prop where
 size : a.tmps.size = a0.tmps.size
 defers : a.defers = a0.defers
 lsz : listed.size = ops.size
 inv : I (fun j => listed.getD j false) w
 base : ∀ s ∈ B, G s w (a.tmps.getD s undef)
 got : ∀ j d, bF ops j = some d → listed.getD j false = true → G d w (a.tmps.getD d undef)
 old : ∀ s, (∀ j, bF ops j ≠ some s) → a.tmps.getD s undef = a0.tmps.getD s undef
theorem vP {n i : Nat} {o : Oper} (h : wL ops n = true) (hi : ops[i]? = some o) :
    o.guard = none ∧ (∀ e ∈ o.after, e.on < i) ∧ (∀ s ∈ mY o, ∀ j, bF ops j = some s → ∃ e ∈ o.after, e.on = j ∧ Region.binds .any e = true) ∧ (∀ d, o.dst = some d → d < n ∧ ∀ j, j ≠ i → bF ops j ≠ some d) := by
 have Aa : i < ops.size := (Array.getElem?_eq_some_iff.1 hi).1
 have h1 := List.all_eq_true.1 h i (List.mem_range.2 Aa)
 unfold yM at h1
 rw [hi] at h1
 simp only [Bool.and_eq_true] at h1
 obtain ⟨⟨⟨h2, h3⟩, h4⟩, h5⟩ := h1
 have hj : ∀ j s, bF ops j = some s → j < ops.size := by
  intro j s hs
  unfold bF at hs
  by_cases hl : j < ops.size
  ·exact hl
  rw [Array.getElem?_eq_none (by omega)] at hs; cases hs
 refine ⟨by simpa using h2, fun e he => by simpa using Array.all_eq_true_iff_forall_mem.1 h3 e he, fun s hs j hd => ?_, fun d hd => ?_⟩
 ·have h6 := List.all_eq_true.1 (List.all_eq_true.1 h4 s hs) j (List.mem_range.2 (hj j s hd))
  simp only [hd, decide_true, Bool.not_true, Bool.false_or] at h6
  obtain ⟨k, hk, h7⟩ := Array.any_eq_true.1 h6
  have he : o.after[k] ∈ o.after := Array.getElem_mem hk
  generalize o.after[k] = e at h7 he
  simp only [Bool.and_eq_true, decide_eq_true_eq] at h7
  exact ⟨e, he, h7.1, h7.2⟩
 rw [hd] at h5
 simp only [Bool.and_eq_true, decide_eq_true_eq] at h5
 refine ⟨h5.1, fun j hji hdj => ?_⟩
 have h6 := List.all_eq_true.1 h5.2 j (List.mem_range.2 (hj j d hdj))
 simp [hji, hdj] at h6
theorem dV {α : Type} (a : Array α) (i : Nat) (v d : α) (h : i < a.size) : (a.setIfInBounds i v).getD i d = v := by
 simp [h]
theorem cE {α : Type} (a : Array α) (i j : Nat) (v d : α) (h : i ≠ j) : (a.setIfInBounds i v).getD j d = a.getD j d := by
 simp only [Array.getD_eq_getD_getElem?]
 rw [Array.getElem?_setIfInBounds_ne h]
def oK (listed : Array Bool) : Nat := ((List.range listed.size).filter fun i => !listed.getD i true).length
theorem pK {listed : Array Bool} {i : Nat} (h : listed.getD i true = false) : oK (listed.setIfInBounds i true) < oK listed := by
 have Aa : i < listed.size := by
  by_cases hl : i < listed.size
  ·exact hl
  simp [hl] at h
 unfold oK
 rw [Array.size_setIfInBounds]
 have hp : ∀ j, (!(listed.setIfInBounds i true).getD j true) = (!listed.getD j true && !decide (j = i)) := by
  intro j
  by_cases hj : j = i
  ·subst hj; rw [dV _ _ _ _ Aa]; simp
  rw [cE _ _ _ _ _ (Ne.symm hj)]; simp [hj]
 simp only [hp]
 rw [show (fun j => !listed.getD j true && !decide (j = i)) = (fun j => (!decide (j = i)) && !listed.getD j true) from funext fun j => Bool.and_comm _ _, ← List.filter_filter]
 refine List.length_filter_lt_length_iff_exists.2 ⟨i, ?_, by simp⟩
 exact List.mem_filter.2 ⟨List.mem_range.2 Aa, by rw [h]; rfl⟩
theorem nU {listed : Array Bool} {n : Nat} (hok : wL ops n = true) (hsz : listed.size = ops.size) (h : Region.ready .any ops listed = []) : ∀ i, i < ops.size → listed.getD i false = true := by
 intro i
 induction i using Nat.strongRecOn with
 | _ i ih =>
  intro hi
  apply Classical.byContradiction
  intro hn
  have ho : ops[i]? = some ops[i] := by simp [hi]
  obtain ⟨-, h2, -, -⟩ := vP hok ho
  have hr : i ∈ Region.ready .any ops listed := mem_ready.2 ⟨by simpa [hsz, hi] using hn, ops[i], ho, fun e he _ => by
   have := ih e.on (h2 e he) (by have := h2 e he; omega)
   simpa using this⟩
  rw [h] at hr
  cases hr
end
section
variable {P : Program} {E : List PanicEntry → World → Prop} {I : (Nat → Bool) → World → Prop} {G : Nat → World → Value → Prop}
def vE (P : Program) (E : List PanicEntry → World → Prop) (I : (Nat → Bool) → World → Prop) (G : Nat → World → Value → Prop) : Nat → List Oper → Prop
 | _, [] => True
 | i, o :: r => yw P E I G i o ∧ vE P E I G (i + 1) r
end
def D0 (ops : Array Oper) (B : List Nat) : Bool := (List.range ops.size).all fun j => match ops[j]? with
 | none => true
 | some o => (mY o).all fun s => B.contains s || (List.range ops.size).any fun j => decide (bF ops j = some s)
def B3 (ops : Array Oper) (B : List Nat) : Bool := B.all fun s => (List.range ops.size).all fun j => !decide (bF ops j = some s)
theorem ac {P : Program} {E : List PanicEntry → World → Prop} {ρ : Operand → Value} {o : Oper} {w w' : World} {v : Value} {R : Value → World → Prop} (h : (execOp ρ o).run P w = .ok (.value v) w') (hr : R v w') : iw P E ρ o w R := by
 unfold iw; rw [h]; exact hr
theorem dT {P : Program} {E : List PanicEntry → World → Prop} {ρ : Operand → Value} {o : Oper} {w w' : World} {f : FuncId} {args : Array Value} {R : Value → World → Prop} {K : Ending → World → Prop} (h : (execOp ρ o).run P w = .ok (.enter f args) w') (hc : Calls P f args w' K)
    (hr : ∀ e w'', K e w'' → ∃ v, e = .returned v ∧ R v w'') : iw P E ρ o w R := by
 unfold iw; rw [h]
 refine hc.mono fun e w'' he => ?_
 obtain ⟨v, rfl, hv⟩ := hr e w'' he
 exact hv
def fY (_ : List PanicEntry) (_ : World) : Prop := False
section
variable {P : Program} {ops : Array Oper} {Q : Exit → Act → World → Prop} {E : List PanicEntry → World → Prop} {J : (Nat → Bool) → (Nat → Value) → World → Prop}
abbrev more (L : Nat → Bool) (i : Nat) : Nat → Bool := fun j => L j || decide (j = i)
abbrev fA (σ : Nat → Value) (d : Option Nat) (v : Value) : Nat → Value := fun s => if d = some s then v else σ s
def Cl (ops : Array Oper) (L : Nat → Bool) : Prop := ∀ j o, ops[j]? = some o → L j = true → ∀ e ∈ o.after, Region.binds .any e = true → L e.on = true
def jL (P : Program) (ops : Array Oper) (E : List PanicEntry → World → Prop) (J : (Nat → Bool) → (Nat → Value) → World → Prop) (i : Nat) (o : Oper) : Prop :=
 ∀ (ρ : Operand → Value) (w : World) (L : Nat → Bool), (∀ v, ρ (.const v) = v) → (∀ f, ρ (.func f) = .func (.func f) #[] #[]) → L i = false → (∀ e ∈ o.after, Region.binds .any e = true → L e.on = true) → Cl ops L → J L (fun s => ρ (.tmp s)) w →
  iw P E ρ o w fun v w' => J (more L i) (fA (fun s => ρ (.tmp s)) o.dst v) w'
def yO (ops : Array Oper) (n i : Nat) : Bool := match ops[i]? with
 | none => true
 | some o => o.guard.isNone && o.after.all (fun e => decide (e.on < i)) &&
     (match o.dst with
      | none => true
      | some d => decide (d < n) && (List.range ops.size).all fun j => decide (j = i) || !(decide (bF ops j = some d)))
def okJ (ops : Array Oper) (n : Nat) : Bool := (List.range ops.size).all (yO ops n)
theorem pO {n i : Nat} {o : Oper} (h : okJ ops n = true) (hi : ops[i]? = some o) :
    o.guard = none ∧ (∀ e ∈ o.after, e.on < i) ∧ (∀ d, o.dst = some d → d < n ∧ ∀ j, j ≠ i → bF ops j ≠ some d) := by
 have Aa : i < ops.size := (Array.getElem?_eq_some_iff.1 hi).1
 have h1 := List.all_eq_true.1 h i (List.mem_range.2 Aa)
 unfold yO at h1
 rw [hi] at h1
 simp only [Bool.and_eq_true] at h1
 obtain ⟨⟨h2, h3⟩, h5⟩ := h1
 have hj : ∀ j s, bF ops j = some s → j < ops.size := by
  intro j s hs
  unfold bF at hs
  by_cases hl : j < ops.size
  ·exact hl
  rw [Array.getElem?_eq_none (by omega)] at hs; cases hs
 refine ⟨by simpa using h2, fun e he => by simpa using Array.all_eq_true_iff_forall_mem.1 h3 e he, fun d hd => ?_⟩
 rw [hd] at h5
 simp only [Bool.and_eq_true, decide_eq_true_eq] at h5
 refine ⟨h5.1, fun j hji hdj => ?_⟩
 have h6 := List.all_eq_true.1 h5.2 j (List.mem_range.2 (hj j d hdj))
 simp [hji, hdj] at h6
theorem lN {listed : Array Bool} {n : Nat} (hok : okJ ops n = true) (hsz : listed.size = ops.size) (h : Region.ready .any ops listed = []) : ∀ i, i < ops.size → listed.getD i false = true := by
 intro i
 induction i using Nat.strongRecOn with
 | _ i ih =>
  intro hi
  apply Classical.byContradiction
  intro hn
  have ho : ops[i]? = some ops[i] := by simp [hi]
  obtain ⟨-, h2, -⟩ := pO hok ho
  have hr : i ∈ Region.ready .any ops listed := mem_ready.2 ⟨by simpa [hsz, hi] using hn, ops[i], ho, fun e he _ => by
   have := ih e.on (h2 e he) (by have := h2 e he; omega)
   simpa using this⟩
  rw [h] at hr
  cases hr
structure Jj (ops : Array Oper) (J : (Nat → Bool) → (Nat → Value) → World → Prop) (a0 : Act) (listed : Array Bool) (a : Act) (w : World) : Prop where
 size : a.tmps.size = a0.tmps.size
 defers : a.defers = a0.defers
 lsz : listed.size = ops.size
 cl : Cl ops fun j => listed.getD j false
 inv : J (fun j => listed.getD j false) (fun s => a.tmps.getD s undef) w
 old : ∀ s, (∀ j, bF ops j ≠ some s) → a.tmps.getD s undef = a0.tmps.getD s undef
theorem Jj.put {a0 a : Act} {listed : Array Bool} {w w' : World} {i : Nat} {o : Oper} {v : Value} (hJ : Jj ops J a0 listed a w) (hok : okJ ops a0.tmps.size = true) (hi : ops[i]? = some o) (hdone : ∀ e ∈ o.after, Region.binds .any e = true → listed.getD e.on false = true)
    (hI : J (more (fun j => listed.getD j false) i) (fA (fun s => a.tmps.getD s undef) o.dst v) w') : Jj ops J a0 (listed.setIfInBounds i true) (a.put o.dst v) w' := by
 obtain ⟨-, -, h4⟩ := pO hok hi
 have Ac : i < ops.size := (Array.getElem?_eq_some_iff.1 hi).1
 have Ad : bF ops i = o.dst := by unfold bF; rw [hi]; rfl
 have Aa : ∀ s, o.dst ≠ some s → (a.put o.dst v).tmps.getD s undef = a.tmps.getD s undef := by
  intro s hs
  cases hd : o.dst with
  | none => rfl
  | some d =>
   rw [hd] at hs
   exact cE _ _ _ _ _ (fun e => hs (by rw [e]))
 refine ⟨?_, ?_, by simpa using hJ.lsz, ?_, ?_, fun s hs => ?_⟩
 ·cases hd : o.dst with
  | none => exact hJ.size
  | some d => simpa [Act.put] using hJ.size
 ·cases hd : o.dst with
  | none => exact hJ.defers
  | some d => exact hJ.defers
 ·intro j o' Ab hj e he hb
  have up : ∀ k, listed.getD k false = true → (listed.setIfInBounds i true).getD k false = true := by
   intro k hk
   by_cases hz : i = k
   ·subst hz; rw [dV _ _ _ _ (by rw [hJ.lsz]; exact Ac)]
   rw [cE _ _ _ _ _ hz]; exact hk
  by_cases hz : i = j
  ·subst hz
   rw [hi] at Ab
   cases Ab
   exact up _ (hdone e he hb)
  exact up _ (hJ.cl j o' Ab (by simpa [cE _ _ _ _ _ hz] using hj) e he hb)
 ·have e : (fun j => (listed.setIfInBounds i true).getD j false) = more (fun j => listed.getD j false) i := by
   funext j
   by_cases hz : i = j
   ·subst hz
    rw [dV _ _ _ _ (by rw [hJ.lsz]; exact Ac)]
    simp [more]
   rw [cE _ _ _ _ _ hz]
   simp [more, Ne.symm hz]
  have e2 : (fun s => (a.put o.dst v).tmps.getD s undef) = fA (fun s => a.tmps.getD s undef) o.dst v := by
   funext s
   unfold fA
   by_cases hs : o.dst = some s
   ·rw [if_pos hs]
    have hd := (h4 s hs).1
    rw [hs]
    show (a.tmps.setIfInBounds s v).getD s undef = v
    rw [dV _ _ _ _ (by rw [hJ.size]; exact hd)]
   rw [if_neg hs, Aa s hs]
  rw [e, e2]
  exact hI
 rw [Aa s (by rw [← Ad]; exact hs i)]
 exact hJ.old s hs
theorem Jj.step {a0 a : Act} {listed : Array Bool} {w : World} {i : Nat} (hJ : Jj ops J a0 listed a w) (hok : okJ ops a0.tmps.size = true) (hstep : ∀ (i : Nat) (o : Oper), ops[i]? = some o → jL P ops E J i o)
    (hE : ∀ c a w, a.defers = a0.defers → E c w → Q (.panic c) a w) (hr : i ∈ Region.ready .any ops listed) :
    wpOp P ops Q i (fun a' w' => Jj ops J a0 (listed.setIfInBounds i true) a' w') a w := by
 obtain ⟨Ad, o, ho, Aa⟩ := mem_ready.1 hr
 obtain ⟨h1, -, -⟩ := pO hok ho
 have Ac : i < ops.size := (Array.getElem?_eq_some_iff.1 ho).1
 have hf : listed.getD i false = false := by
  have : i < listed.size := by rw [hJ.lsz]; exact Ac
  simpa [this] using Ad
 have hd := hstep i o ho a.eval w (fun j => listed.getD j false) (fun _ => rfl) (fun _ => rfl) hf (fun e he hb => by simpa using Aa e he hb) hJ.cl hJ.inv
 unfold wpOp
 simp only [ho]
 have hw : Region.wanted o (yielded ops a.tmps) = true := by unfold Region.wanted; rw [h1]
 rw [if_pos hw]
 refine .inl ?_
 unfold Oper.wp
 unfold iw at hd
 generalize (execOp a.eval o).run P w = r at hd ⊢
 have Ab : ∀ v w', J (more (fun j => listed.getD j false) i) (fA (fun s => a.tmps.getD s undef) o.dst v) w' → Jj ops J a0 (listed.setIfInBounds i true) (a.put o.dst v) w' :=
  fun v w' h => hJ.put hok ho (fun e he hb => by simpa using Aa e he hb) h
 cases r with
 | ok n w' =>
  cases n <;> simp only [Oper.upon] at hd ⊢
  case value v => exact Ab v w' hd
  case skip => exact Ab _ w' hd
  case enter f args =>
   refine Calls.mono hd fun e w'' he => ?_
   cases e with
   | returned v => exact Ab v w'' he
   | panicked c => exact hE _ _ _ hJ.defers he
   | outgrown => exact he.elim
  all_goals exact hd.elim
 | halt x w' => exact hd.elim
theorem rP {a0 : Act} (hok : okJ ops a0.tmps.size = true) (hstep : ∀ (i : Nat) (o : Oper), ops[i]? = some o → jL P ops E J i o)
    (hE : ∀ c a w, a.defers = a0.defers → E c w → Q (.panic c) a w)
    (hend : ∀ listed a w, Jj ops J a0 listed a w → (∀ i, i < ops.size → listed.getD i false = true) → Q .normal a w) :
    ∀ fuel listed a w, oK listed ≤ fuel → Jj ops J a0 listed a w → wpAny P .any ops Q fuel listed a w := by
 intro fuel
 induction fuel with
 | zero =>
  intro listed a w hf hJ
  have hr : Region.ready .any ops listed = [] := by
   apply Classical.byContradiction
   intro hn
   obtain ⟨i, hi⟩ := List.exists_mem_of_ne_nil _ hn
   have := pK (mem_ready.1 hi).1
   omega
  exact ⟨hr, hend _ _ _ hJ (lN hok hJ.lsz hr)⟩
 | succ fuel ih =>
  intro listed a w hf hJ
  refine ⟨fun hr => hend _ _ _ hJ (lN hok hJ.lsz hr), fun i hi => ?_⟩
  refine wpOp_mono (fun a' w' h' => ih _ a' w' ?_ h') (hJ.step hok hstep hE hi)
  have := pK (mem_ready.1 hi).1
  omega
theorem bW {id : Nat} {a : Act} {w : World} (E : List PanicEntry → World → Prop) (J : (Nat → Bool) → (Nat → Value) → World → Prop) (hm : P.follows .mixedOrders = true) (hok : okJ ops a.tmps.size = true)
    (hI : J (fun _ => false) (fun s => a.tmps.getD s undef) { w with drawn := w.drawn + 1 })
    (hstep : ∀ (i : Nat) (o : Oper), ops[i]? = some o → jL P ops E J i o)
    (hE : ∀ c a' w, a'.defers = a.defers → E c w → Q (.panic c) a' w)
    (hend : ∀ a' w', a'.tmps.size = a.tmps.size → a'.defers = a.defers → (∃ L, (∀ j, j < ops.size → L j = true) ∧ J L (fun s => a'.tmps.getD s undef) w') → (∀ s, (∀ j, bF ops j ≠ some s) → a'.tmps.getD s undef = a.tmps.getD s undef) → Q .normal a' w') :
    (Code.region id ops true).wp P Q a w := by
 refine wp_region_any hm (rP (a0 := a) (J := J) hok hstep hE (fun listed a' w' hJ hall => hend a' w' hJ.size hJ.defers ⟨_, hall, hJ.inv⟩ hJ.old) ops.size _ a _ ?_ ⟨rfl, rfl, by simp, ?_, ?_, fun s hs => rfl⟩)
 ·unfold oK
  refine Nat.le_trans (List.length_filter_le _ _) ?_
  simp
 ·intro j o _ hj
  exfalso
  by_cases hz : j < ops.size
  ·simp [hz] at hj
  simp [hz] at hj
 have e : (fun j => (Array.replicate ops.size false).getD j false) = fun _ => false := by
  funext j
  by_cases hz : j < ops.size
  ·simp [hz]
  simp [hz]
 rw [e]
 exact hI
def vu (P : Program) (ops : Array Oper) (E : List PanicEntry → World → Prop) (J : (Nat → Bool) → (Nat → Value) → World → Prop) : Nat → List Oper → Prop
 | _, [] => True
 | i, o :: r => jL P ops E J i o ∧ vu P ops E J (i + 1) r
theorem wM : ∀ (l : List Oper) (k : Nat), vu P ops E J k l → ∀ (i : Nat) (o : Oper), l[i]? = some o → jL P ops E J (k + i) o
 | [], _, _, i, o, h => by simp at h
 | x :: r, k, h, 0, o, ho => by simp at ho; subst ho; exact h.1
 | x :: r, k, h, i + 1, o, ho => by
  have := wM r (k + 1) h.2 i o (by simpa using ho)
  rwa [show k + 1 + i = k + (i + 1) by omega] at this
theorem ci {l : List Oper} (h : vu P l.toArray E J 0 l) : ∀ (i : Nat) (o : Oper), l.toArray[i]? = some o → jL P l.toArray E J i o := fun i o ho => by
 have := wM l 0 h i o (by simpa using ho)
 rwa [Nat.zero_add] at this
end
def zr (tm : Array Value) (m mx : Nat) : Nat → List Value → List Value
 | _, [] => []
 | k, v :: l => (if k < m ∨ mx < k then v else tm.getD k undef) :: zr tm m mx (k + 1) l
theorem xh {tm : Array Value} {m mx : Nat} : ∀ (l : List Value) (k : Nat), tm.size = k + l.length → (∀ j, k ≤ j → (j < m ∨ mx < j) → tm.getD j undef = l.getD (j - k) undef) → tm.toList.drop k = zr tm m mx k l
 | [], k, hs, _ => by
  unfold zr
  exact List.drop_eq_nil_of_le (by simp at hs; simp; omega)
 | v :: l, k, hs, h => by
  simp only [List.length_cons] at hs
  have hk : k < tm.size := by omega
  have hd : tm.toList.drop k = tm.getD k undef :: tm.toList.drop (k + 1) := by
   rw [List.drop_eq_getElem_cons (by simpa using hk)]
   simp [hk]
  unfold zr
  rw [hd, xh l (k + 1) (by omega) fun j hj hc => by
   have := h j (by omega) hc
   rw [this]
   have e : j - k = (j - (k + 1)) + 1 := by omega
   rw [e]
   rfl]
  have hv : tm.getD k undef = (if k < m ∨ mx < k then v else tm.getD k undef) := by
   by_cases hc : k < m ∨ mx < k
   ·rw [if_pos hc, h k (Nat.le_refl _) hc, Nat.sub_self]
    rfl
   rw [if_neg hc]
  rw [← hv]
def rK (ops : Array Oper) (m mx : Nat) : Bool := (List.range ops.size).all fun j => match bF ops j with
 | none => true
 | some d => decide (m ≤ d) && decide (d ≤ mx)
theorem uU {ops : Array Oper} {m mx : Nat} (h : rK ops m mx = true) {s : Nat} (hs : s < m ∨ mx < s) : ∀ j, bF ops j ≠ some s := by
 intro j hj
 have hl : j < ops.size := by
  unfold bF at hj
  by_cases hl : j < ops.size
  ·exact hl
  rw [Array.getElem?_eq_none (by omega)] at hj; cases hj
 have h1 := List.all_eq_true.1 h j (List.mem_range.2 hl)
 have h2 : m ≤ s ∧ s ≤ mx := by simpa [hj] using h1
 omega
theorem dA {ops : Array Oper} {tm : Array Value} {l : List Value} (m mx : Nat) (hr : rK ops m mx = true) (hs : tm.size = l.toArray.size) (hold : ∀ s, (∀ j, bF ops j ≠ some s) → tm.getD s undef = l.toArray.getD s undef) : tm = (zr tm m mx 0 l).toArray := by
 have h := xh (tm := tm) (m := m) (mx := mx) l 0 (by simpa using hs) fun j _ hc => by
  rw [hold j (uU hr hc)]
  simp [Array.getD_eq_getD_getElem?]
 rw [List.drop_zero] at h
 rw [← h]
def zs (tm : Array Value) (m mx s0 : Nat) : Nat → List Value → List Value
 | _, [] => []
 | k, v :: l => (if (k < m ∨ mx < k) ∧ k ≠ s0 then v else tm.getD k undef) :: zs tm m mx s0 (k + 1) l
theorem wW {tm : Array Value} {m mx s0 : Nat} : ∀ (l : List Value) (k : Nat), tm.size = k + l.length → (∀ j, k ≤ j → ((j < m ∨ mx < j) ∧ j ≠ s0) → tm.getD j undef = l.getD (j - k) undef) → tm.toList.drop k = zs tm m mx s0 k l
 | [], k, hs, _ => by
  unfold zs
  exact List.drop_eq_nil_of_le (by simp at hs; simp; omega)
 | v :: l, k, hs, h => by
  simp only [List.length_cons] at hs
  have hk : k < tm.size := by omega
  have hd : tm.toList.drop k = tm.getD k undef :: tm.toList.drop (k + 1) := by
   rw [List.drop_eq_getElem_cons (by simpa using hk)]
   simp [hk]
  unfold zs
  rw [hd, wW l (k + 1) (by omega) fun j hj hc => by
   have := h j (by omega) hc
   rw [this]
   have e : j - k = (j - (k + 1)) + 1 := by omega
   rw [e]
   rfl]
  have hv : tm.getD k undef = (if (k < m ∨ mx < k) ∧ k ≠ s0 then v else tm.getD k undef) := by
   by_cases hc : (k < m ∨ mx < k) ∧ k ≠ s0
   ·rw [if_pos hc, h k (Nat.le_refl _) hc, Nat.sub_self]
    rfl
   rw [if_neg hc]
  rw [← hv]
def qb (ops : Array Oper) (m mx s0 : Nat) : Bool := (List.range ops.size).all fun j => match bF ops j with
 | none => true
 | some d => decide (m ≤ d) && decide (d ≤ mx) || decide (d = s0)
theorem uJ {ops : Array Oper} {m mx s0 : Nat} (h : qb ops m mx s0 = true) {s : Nat} (hs : (s < m ∨ mx < s) ∧ s ≠ s0) : ∀ j, bF ops j ≠ some s := by
 intro j hj
 have hl : j < ops.size := by
  unfold bF at hj
  by_cases hl : j < ops.size
  ·exact hl
  rw [Array.getElem?_eq_none (by omega)] at hj; cases hj
 have h1 := List.all_eq_true.1 h j (List.mem_range.2 hl)
 have h2 : (m ≤ s ∧ s ≤ mx) ∨ s = s0 := by simpa [hj] using h1
 omega
theorem en {ops : Array Oper} {tm : Array Value} {l : List Value} (m mx s0 : Nat) (hr : qb ops m mx s0 = true) (hs : tm.size = l.toArray.size) (hold : ∀ s, (∀ j, bF ops j ≠ some s) → tm.getD s undef = l.toArray.getD s undef) : tm = (zs tm m mx s0 0 l).toArray := by
 have h := wW (tm := tm) (m := m) (mx := mx) (s0 := s0) l 0 (by simpa using hs) fun j _ hc => by
  rw [hold j (uJ hr hc)]
  simp [Array.getD_eq_getD_getElem?]
 rw [List.drop_zero] at h
 rw [← h]
end Go.Proofs.YtmlhcncagdfjfaaGreat.Rg
namespace Go.Proofs.YtmlhcncagdfjfaaGreat
open Go.RowKit
open Rg
theorem ic {L : Nat → Bool} {i j : Nat} (h : more L i j = true) (hj : j ≠ i) : L j = true := by simpa [more, hj] using h
theorem aF {L : Nat → Bool} {i : Nat} : more L i i = true := by simp [more]
theorem al {L : Nat → Bool} {i j : Nat} (hj : j ≠ i) : more L i j = L j := by simp [more, hj]
theorem eY {σ : Nat → Value} {d : Option Nat} {v : Value} {s : Nat} (h : d ≠ some s) : fA σ d v s = σ s := if_neg h
theorem rN {σ : Nat → Value} {v : Value} {s : Nat} : fA σ (some s) v s = v := if_pos rfl
theorem bY {P : Program} {E : List PanicEntry → World → Prop} {ρ : Operand → Value} {o : Oper} {w w' : World} {R : Value → World → Prop} (h : (execOp ρ o).run P w = .ok .skip w') (hr : R undef w') : iw P E ρ o w R := by
 unfold iw; rw [h]; exact hr
structure Jr (tab : Nat → Option (Nat × Value)) (base : List (Nat × Value)) (ai : Nat) (A B : (Nat → Bool) → (Nat → Value) → World → Prop) (L : Nat → Bool) (σ : Nat → Value) (W : World) : Prop where
 base : ∀ p ∈ base, σ p.1 = p.2
 vals : ∀ j d v, tab j = some (d, v) → L j = true → σ d = v
 ahead : L ai = false → A L σ W
 behind : L ai = true → B L σ W
section
variable {tab : Nat → Option (Nat × Value)} {base : List (Nat × Value)} {ai : Nat} {A B : (Nat → Bool) → (Nat → Value) → World → Prop} {L : Nat → Bool} {σ : Nat → Value} {W W' : World} {i d : Nat} {v : Value}
end
end Go.Proofs.YtmlhcncagdfjfaaGreat
namespace Go.Proofs.YtmlhcncagdfjfaaGreat.Fa
open Go.RowKit Rg
def fQ (ds : List (Option Nat)) (base : List (Nat × Value)) : Bool := (List.range ds.length).all fun i => match ds.getD i none with
 | none => true
 | some d => (List.range ds.length).all (fun j => decide (j = i) || !decide (ds.getD j none = some d)) && base.all fun p => !decide (p.1 = d)
theorem uF {ds : List (Option Nat)} {base : List (Nat × Value)} (h : fQ ds base = true) {i d : Nat} (hi : ds.getD i none = some d) : (∀ j, ds.getD j none = some d → j = i) ∧ ∀ p ∈ base, p.1 ≠ d := by
 have Ab : i < ds.length := by
  apply Classical.byContradiction
  intro hn
  rw [List.getD_eq_getElem?_getD, List.getElem?_eq_none (by omega)] at hi
  cases hi
 have h1 := List.all_eq_true.1 h i (List.mem_range.2 Ab)
 rw [hi] at h1
 simp only [Bool.and_eq_true] at h1
 refine ⟨fun j hj => ?_, fun p hp e => ?_⟩
 ·have Aa : j < ds.length := by
   apply Classical.byContradiction
   intro hn
   rw [List.getD_eq_getElem?_getD, List.getElem?_eq_none (by omega)] at hj
   cases hj
  have h2 := List.all_eq_true.1 h1.1 j (List.mem_range.2 Aa)
  simp only [Bool.or_eq_true, decide_eq_true_eq, Bool.not_eq_true', decide_eq_false_iff_not] at h2
  rcases h2 with h2 | h2
  ·exact h2
  exact absurd hj h2
 have := List.all_eq_true.1 h1.2 p hp
 simp [e] at this
structure Jg (ds : List (Option Nat)) (base : List (Nat × Value)) (Pr : Nat → Value → World → Nat → Nat → Prop) (W0 : World) (L : Nat → Bool) (σ : Nat → Value) (W : World) : Prop where
 low : Below W0.heap.size W0 W
 base : ∀ p ∈ base, σ p.1 = p.2
 at_ : ∃ lo hi : Nat → Nat, (∀ i d, ds.getD i none = some d → L i = true → W0.heap.size ≤ lo i ∧ lo i ≤ hi i ∧ hi i ≤ W.heap.size ∧ Pr i (σ d) W (lo i) (hi i)) ∧
  ∀ i j d d', ds.getD i none = some d → ds.getD j none = some d' → i ≠ j → L i = true → L j = true → hi i ≤ lo j ∨ hi j ≤ lo i
section
variable {ds : List (Option Nat)} {base : List (Nat × Value)} {Pr : Nat → Value → World → Nat → Nat → Prop} {W0 W W' : World} {L : Nat → Bool} {σ : Nat → Value} {i d : Nat} {v : Value}
theorem Jg.get (h : Jg ds base Pr W0 L σ W) (hi : ds.getD i none = some d) (hL : L i = true) : ∃ lo hi, hi ≤ W.heap.size ∧ Pr i (σ d) W lo hi := by
 obtain ⟨lo, hi', h1, -⟩ := h.at_
 obtain ⟨-, -, h2, h3⟩ := h1 i d hi hL
 exact ⟨_, _, h2, h3⟩
theorem Jg.start : Jg ds base Pr W (fun _ => false) σ W ↔ ∀ p ∈ base, σ p.1 = p.2 :=
 ⟨fun h => h.base, fun h => ⟨Below.refl _ _, h, fun _ => 0, fun _ => 0, fun i d _ hL => (by cases hL), fun i j d d' _ _ _ hL => (by cases hL)⟩⟩
theorem Jg.put (h : Jg ds base Pr W0 L σ W) (hok : fQ ds base = true) (hst : ∀ i v W W' lo hi, Pr i v W lo hi → hi ≤ W.heap.size → Below W.heap.size W W' → Pr i v W' lo hi) (hi : ds.getD i none = some d) (hb : Below W.heap.size W W') (hp : Pr i v W' W.heap.size W'.heap.size) : Jg ds base Pr W0 (more L i) (fA σ (some d) v) W' := by
 obtain ⟨h1, h2⟩ := uF hok hi
 obtain ⟨lo, hi', h3, h4⟩ := h.at_
 have hs := hb.size
 have ho : ∀ j d', ds.getD j none = some d' → d' ≠ d → more L i j = true → j ≠ i ∧ L j = true := fun j d' hj hd hL => by
  have Aa : j ≠ i := fun e => by
   subst e
   rw [hi] at hj
   cases hj
   exact hd rfl
  exact ⟨Aa, ic hL Aa⟩
 refine ⟨h.low.trans (hb.mono h.low.size), fun p hp => ?_, fun j => if j = i then W.heap.size else lo j, fun j => if j = i then W'.heap.size else hi' j, fun j d' hj hL => ?_, fun j k d1 d2 hj hk hne Ab hLk => ?_⟩
 ·rw [eY (by intro e; cases e; exact h2 p hp rfl)]
  exact h.base p hp
 ·by_cases hd : d' = d
  ·subst hd
   have := h1 j hj
   subst this
   dsimp only
   rw [rN, if_pos rfl, if_pos rfl]
   exact ⟨h.low.size, hs, Nat.le_refl _, hp⟩
  obtain ⟨Aa, Ab⟩ := ho j d' hj hd hL
  dsimp only
  rw [eY (by intro e; cases e; exact hd rfl), if_neg Aa, if_neg Aa]
  obtain ⟨a1, a2, a3, a4⟩ := h3 j d' hj Ab
  exact ⟨a1, a2, by omega, hst _ _ _ _ _ _ a4 a3 hb⟩
 dsimp only
 by_cases ej : j = i
 ·subst ej
  have Ac : k ≠ j := Ne.symm hne
  have Ae : L k = true := ic hLk Ac
  obtain ⟨a1, a2, a3, a4⟩ := h3 k d2 hk Ae
  rw [if_pos rfl, if_pos rfl, if_neg Ac, if_neg Ac]
  exact .inr a3
 have Ad : L j = true := ic Ab ej
 obtain ⟨a1, a2, a3, a4⟩ := h3 j d1 hj Ad
 by_cases ek : k = i
 ·subst ek
  rw [if_neg ej, if_neg ej, if_pos rfl, if_pos rfl]
  exact .inl a3
 rw [if_neg ej, if_neg ej, if_neg ek, if_neg ek]
 exact h4 j k d1 d2 hj hk hne Ad (ic hLk ek)
theorem vU {ops : Array Oper} (hc : fP .any ops = true) (hcl : Cl ops L) (hl : L (ops.size - 1) = true) : ∀ j, j < ops.size → L j = true := by
 have key : ∀ m j, ops.size - 1 - j ≤ m → j < ops.size → L j = true := by
  intro m
  induction m with
  | zero =>
   intro j h1 h2
   have : j = ops.size - 1 := by omega
   rw [this]; exact hl
  | succ m ih =>
   intro j h1 h2
   by_cases hj : j = ops.size - 1
   ·rw [hj]; exact hl
   have h3 := List.all_eq_true.1 hc j (List.mem_range.2 (by omega))
   obtain ⟨k, hk, h4⟩ := List.any_eq_true.1 h3
   have Aa := List.mem_range.1 hk
   simp only [Bool.and_eq_true, decide_eq_true_eq] at h4
   obtain ⟨Ac, h5⟩ := h4
   have Ab : ops[k]? = some ops[k] := by simp [Aa]
   rw [Ab] at h5
   simp only at h5
   obtain ⟨q, hq, h6⟩ := Array.any_eq_true.1 h5
   have he : ops[k].after[q] ∈ ops[k].after := Array.getElem_mem hq
   generalize ops[k].after[q] = e at h6 he
   simp only [Bool.and_eq_true, decide_eq_true_eq] at h6
   rw [← h6.1]
   exact hcl k _ Ab (ih k (by omega) Aa) e he h6.2
 intro j hj
 exact key _ j (Nat.le_refl _) hj
def Jl (m : Nat) (ds : List (Option Nat)) (base : List (Nat × Value)) (Pr : Nat → Value → World → Nat → Nat → Prop) (Fin : (Nat → Value) → World → Prop) (W0 : World) (L : Nat → Bool) (σ : Nat → Value) (W : World) : Prop :=
 (L m = false → Jg ds base Pr W0 L σ W) ∧ (L m = true → Fin σ W)
structure Jt (tab : List (Option (Nat × Value))) (base : List (Nat × Value)) (ws : (Nat → Bool) → World) (L : Nat → Bool) (σ : Nat → Value) (W : World) : Prop where
 base : ∀ p ∈ base, σ p.1 = p.2
 vals : ∀ i d v, tab.getD i none = some (d, v) → L i = true → σ d = v
 wd : W = ws L
theorem Jt.put {tab : List (Option (Nat × Value))} {ws : (Nat → Bool) → World} (h : Jt tab base ws L σ W) (hok : fQ (tab.map fun p => p.map Prod.fst) base = true) (hi : tab.getD i none = some (d, v)) (hw : W' = ws (more L i)) : Jt tab base ws (more L i) (fA σ (some d) v) W' := by
 have Aa : ∀ j d' v', tab.getD j none = some (d', v') → (tab.map fun p => p.map Prod.fst).getD j none = some d' := fun j d' v' hj => by
  rw [List.getD_eq_getElem?_getD] at hj ⊢
  rw [List.getElem?_map]
  cases ht : tab[j]? with
  | none => rw [ht] at hj; cases hj
  | some p =>
   rw [ht] at hj
   have : p = some (d', v') := hj
   rw [this]; rfl
 obtain ⟨h1, h2⟩ := uF hok (Aa _ _ _ hi)
 refine ⟨fun p hp => ?_, fun j d' v' hj hL => ?_, hw⟩
 ·rw [eY (by intro e; cases e; exact h2 p hp rfl)]
  exact h.base p hp
 by_cases hd : d' = d
 ·subst hd
  have := h1 j (Aa _ _ _ hj)
  subst this
  rw [hi] at hj
  cases hj
  exact rN
 rw [eY (by intro e; cases e; exact hd rfl)]
 refine h.vals j d' v' hj (ic hL fun e => ?_)
 subst e
 rw [hi] at hj
 cases hj
 exact hd rfl
theorem Jt.last {tab : List (Option (Nat × Value))} {ws : (Nat → Bool) → World} (h : Jt tab base ws L σ W) (hi : tab.getD i none = none) (hw : W' = ws (more L i)) : Jt tab base ws (more L i) (fA σ none v) W' := by
 refine ⟨fun p hp => by rw [eY (by simp)]; exact h.base p hp, fun j d' v' hj hL => ?_, hw⟩
 rw [eY (by simp)]
 refine h.vals j d' v' hj (ic hL fun e => ?_)
 subst e
 rw [hi] at hj
 cases hj
end
def fG (i1 i2 i3 : Nat) (w0 w1 w2 w3 : World) (L : Nat → Bool) : World := if L i3 then w3 else if L i2 then w2 else if L i1 then w1 else w0
end Go.Proofs.YtmlhcncagdfjfaaGreat.Fa
