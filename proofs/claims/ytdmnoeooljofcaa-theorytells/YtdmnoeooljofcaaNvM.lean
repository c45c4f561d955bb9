/- The four conditions, plainly: marks as bytes, what holds by them, a round, what rounds end with. -/
import Derived.Test.YtdmnoeooljofcaaCheck
namespace Go.Proofs.Ytdmnoeooljofcaa
open Go.RowKit

def bitM (t : Int) : Int := if t = 1 then 1 else if t = 2 then 2 else if t = 3 then 4 else 8
/-- Has a byte a tag's bit? -/
def hb (x t : Int) : Bool := bits .and .u8 x (bitM t) != 0
def orB (x t : Int) : Int := bits .or .u8 x (bitM t)
def hs (m : List Int) (q t : Int) : Bool := hb (m.getD q.toNat 0) t
def bodyM (T : Th) (r : Int) : List Int := ((T.rules[r.toNat]?).map RuleM.body).getD []
def wholeB (T : Th) (m : List Int) (r t : Int) : Bool := (bodyM T r).all fun x => hs m x t
def partB (T : Th) (m : List Int) (r t : Int) : Bool := (bodyM T r).any fun x => hs m x t
def kS (r : RuleM) : Bool := decide (r.kind = 1)
def kT (r : RuleM) : Bool := !decide (r.kind = 3)
def kA (_ : RuleM) : Bool := true
def isFor (T : Th) (p : RuleM → Bool) (z : Int) (a : Nat) : Bool := match T.rules[a]? with
  | some x => p x && decide (x.head = z)
  | none => false
/-- The rules of a kind for a literal, among the first. -/
def forL (T : Th) (p : RuleM → Bool) (k : Nat) (z : Int) : List Int := ((List.range k).filter (isFor T p z)).map Int.ofNat
def rulesL (T : Th) (p : RuleM → Bool) (z : Int) : List Int := forL T p T.rules.length z
def beatB (T : Th) (t s : Int) : Bool := decide (s ∈ row T.beats t)
def plusS (T : Th) (F m : List Int) (q : Int) : Bool := decide (q ∈ F) || (rulesL T kS q).any fun r => wholeB T m r 1
def minusS (T : Th) (F m : List Int) (q : Int) : Bool := !decide (q ∈ F) && (rulesL T kS q).all fun r => partB T m r 2
def atkP (T : Th) (m : List Int) (q s : Int) : Bool := partB T m s 4 || (rulesL T kT q).any fun t => beatB T t s && wholeB T m t 3
def plusD (T : Th) (m : List Int) (q : Int) : Bool :=
  hs m q 1 || ((rulesL T kT q).any (fun r => wholeB T m r 3) && (row T.foes q).all (fun f => hs m f 2) && (row T.foes q).all fun f => (rulesL T kA f).all fun s => atkP T m q s)
def atkM (T : Th) (m : List Int) (q s : Int) : Bool := wholeB T m s 3 && (rulesL T kT q).all fun t => partB T m t 4 || !beatB T t s
def minusD (T : Th) (m : List Int) (q : Int) : Bool :=
  hs m q 2 && ((rulesL T kT q).all (fun r => partB T m r 4) || (row T.foes q).any (fun f => hs m f 1) || (row T.foes q).any fun f => (rulesL T kA f).any fun s => atkM T m q s)
def condM (T : Th) (F m : List Int) (t q : Int) : Bool := if t = 1 then plusS T F m q else if t = 2 then minusS T F m q else if t = 3 then plusD T m q else minusD T m q
/-- A tag more, where its condition holds. -/
def addM (T : Th) (F m : List Int) (q t x : Int) : Int := if !hs m q t && condM T F m t q then orB x t else x
def addsM (T : Th) (F m : List Int) (q : Int) (k : Nat) (x : Int) : Int := match k with
  | 0 => x
  | k + 1 => addM T F m q ((k : Int) + 1) (addsM T F m q k x)
def roundM (T : Th) (F m : List Int) : List Int := (List.range m.length).map fun q : Nat => addsM T F m q 4 (m.getD q 0)
def iterM (T : Th) (F : List Int) : Nat → List Int → List Int
  | 0, m => m
  | k + 1, m => iterM T F k (roundM T F m)
/-- What rounds end with. -/
def Sol (T : Th) (F m : List Int) (k : Nat) : Prop := m = iterM T F k (List.replicate T.lits.toNat 0) ∧ roundM T F m = m
def faultM (T : Th) (F : List Int) : Int := if (checkM T).1 ≠ 0 then (checkM T).1 else if risesM F T.lits then 0 else 181

theorem forL_succ {T : Th} {p : RuleM → Bool} {k : Nat} {z : Int} : forL T p (k + 1) z = if isFor T p z k then forL T p k z ++ [(k : Int)] else forL T p k z := by
  unfold forL
  rw [List.range_succ, List.filter_append, List.map_append]
  cases h : isFor T p z k <;> simp [h]
theorem forL_len {T : Th} {p : RuleM → Bool} {k : Nat} {z : Int} : (forL T p k z).length ≤ k := by
  unfold forL
  rw [List.length_map]
  exact Nat.le_trans (List.length_filter_le _ _) (by simp)
theorem getD_set {α : Type} {l : List α} {a q : Nat} {v d : α} (ha : a < l.length) : (l.set a v).getD q d = if q = a then v else l.getD q d := by
  rw [List.getD_eq_getElem?_getD, List.getD_eq_getElem?_getD, List.getElem?_set]
  by_cases e : a = q
  · subst e; simp [ha]
  · have : ¬ q = a := fun x => e x.symm
    simp [e, this]
/-- Rules by heads. -/
structure Grp (T : Th) (p : RuleM → Bool) (n k : Nat) (H : List (List Int)) : Prop where
  ln : H.length = n
  at_ : ∀ z : Nat, z < n → H.getD z [] = forL T p k z
section
variable {T : Th} {p : RuleM → Bool} {n k : Nat} {H : List (List Int)} {R : RuleM}
theorem Grp.start (T : Th) (p : RuleM → Bool) (n : Nat) : Grp T p n 0 (List.replicate n []) := by
  refine ⟨by simp, fun z hz => ?_⟩
  rw [List.getD_eq_getElem?_getD, List.getElem?_replicate]
  simp [hz, forL]
theorem Grp.add {y : Nat} (h : Grp T p n k H) (hr : T.rules[k]? = some R) (hk : p R = true) (hy : R.head = (y : Int)) (hyn : y < n) : Grp T p n (k + 1) (H.set y (H.getD y [] ++ [(k : Int)])) := by
  refine ⟨by rw [List.length_set]; exact h.ln, fun z hz => ?_⟩
  rw [getD_set (by rw [h.ln]; exact hyn), forL_succ]
  by_cases e : z = y
  · subst e
    have : isFor T p z k = true := by unfold isFor; rw [hr]; simp [hk, hy]
    rw [if_pos rfl, h.at_ z hz, this]
    rfl
  · have : isFor T p z k = false := by
      have hne : ¬ R.head = (z : Int) := by omega
      unfold isFor; rw [hr]; simp [hne]
    rw [if_neg e, h.at_ z hz, this]
    rfl
def grp (T : Th) (p : RuleM → Bool) (n : Nat) : List (List Int) := (List.range n).map fun z : Nat => rulesL T p z
theorem grp_at {z : Nat} (hz : z < n) : (grp T p n)[z]? = some (rulesL T p z) := by unfold grp; rw [List.getElem?_map, List.getElem?_range hz]; rfl
theorem Grp.done (h : Grp T p n T.rules.length H) : H = grp T p n := by
  apply List.ext_getElem?
  intro z
  by_cases hz : z < n
  · have := h.at_ z hz
    rw [grp_at hz, List.getElem?_eq_getElem (by rw [h.ln]; exact hz)]
    rw [List.getD_eq_getElem?_getD, List.getElem?_eq_getElem (by rw [h.ln]; exact hz)] at this
    exact congrArg some this
  · rw [List.getElem?_eq_none (by rw [h.ln]; omega), List.getElem?_eq_none (by unfold grp; simp; omega)]
end
/-- The facts, marked. -/
structure Fcs (n : Nat) (l : List Int) (R : List Bool) : Prop where
  ln : R.length = n
  at_ : ∀ z : Nat, z < n → R.getD z false = decide ((z : Int) ∈ l)
theorem Fcs.start (n : Nat) : Fcs n [] (List.replicate n false) := ⟨by simp, fun z hz => by rw [List.getD_eq_getElem?_getD, List.getElem?_replicate]; simp [hz]⟩
theorem Fcs.add {n : Nat} {l : List Int} {R : List Bool} {y : Nat} (h : Fcs n l R) (hy : y < n) : Fcs n (l ++ [(y : Int)]) (R.set y true) := by
  refine ⟨by rw [List.length_set]; exact h.ln, fun z hz => ?_⟩
  rw [getD_set (by rw [h.ln]; exact hy)]
  by_cases e : z = y
  · subst e; rw [if_pos rfl]; simp
  · rw [if_neg e, h.at_ z hz]
    have : ((z : Int) = (y : Int)) ↔ False := by constructor; intro h; omega; exact False.elim
    simp [this]
end Go.Proofs.Ytdmnoeooljofcaa
/- The heads of coneOf in memory: a row of rows, each of its own. -/
namespace Go.Proofs.Ytdmnoeooljofcaa
open Go.RowKit

/-- The rows' values: each row lies in a block of its own behind hb. -/
structure Hv (hb n : Nat) (H : List (List Int)) (vs : List Value) (w : World) : Prop where
  ln : H.length = n
  vl : vs.length = n
  fx : Fx hb 38 vs w
  own : ∀ (i : Nat) l v, H[i]? = some l → vs[i]? = some v → w.ownsRow (hb + 1) 3 1 v l.length (ints l)
  apart : ∀ (i j : Nat) v u g, vs[i]? = some v → vs[j]? = some u → v.ownBlock = some g → u.ownBlock = some g → i = j
section
variable {hb n : Nat} {H : List (List Int)} {vs : List Value} {w w' : World}
theorem Hv.keep (h : Hv hb n H vs w) (hk : ∀ g, hb ≤ g → g < w.heap.size → w'.heap[g]? = w.heap[g]?) : Hv hb n H vs w' := by
  refine ⟨h.ln, h.vl, h.fx.keep (hk _ (Nat.le_refl _) h.fx.lt), fun i l v h1 h2 => owns_keep (h.own i l v h1 h2) fun g hg => hk g ?_ (owns_lt (h.own i l v h1 h2) hg), h.apart⟩
  have := ((h.own i l v h1 h2).lt g hg).1
  omega
theorem Hv.go (h : Hv hb n H vs w) (hb' : Below w.heap.size w w') : Hv hb n H vs w' := h.keep fun g _ hg => hb'.block g hg
theorem Hv.at (h : Hv hb n H vs w) {i : Nat} (hi : i < n) : ∃ l a c, H[i]? = some l ∧ vs[i]? = some (.slice a l.length c) ∧ w.cell? ⟨hb, i, none⟩ = some (.slice a l.length c) ∧ w.ownsRow (hb + 1) 3 1 (.slice a l.length c) l.length (ints l) := by
  obtain ⟨l, h1⟩ := get_at (l := H) (i := i) (by rw [h.ln]; exact hi)
  obtain ⟨v, h2⟩ := get_at (l := vs) (i := i) (by rw [h.vl]; exact hi)
  have ho := h.own i _ _ h1 h2
  obtain ⟨a, c, e⟩ := owns_slice ho
  rw [e] at ho h2
  exact ⟨l, a, c, h1, h2, h.fx.get h2, ho⟩
theorem Hv.start (w : World) (n : Nat) : Hv w.heap.size n (List.replicate n []) (List.replicate n (.slice none 0 0)) (w.alloc (.cells (Array.replicate n (.slice none 0 0)) 38)) := by
  refine ⟨by simp, by simp, ?_, fun i l v h1 h2 => ?_, fun i j v u g h1 h2 h3 => ?_⟩
  · unfold Fx
    rw [heap_alloc_new]
    simp
  · rw [List.getElem?_replicate] at h1 h2
    split at h1
    · rename_i hi
      rw [if_pos hi] at h2
      cases h1
      cases h2
      exact ⟨rfl, .inl ⟨rfl, rfl⟩⟩
    · cases h1
  · rw [List.getElem?_replicate] at h1
    split at h1
    · cases h1; cases h3
    · cases h1
/-- One number more in row i: the row's block alone is written, or a new one, then the row's cell. -/
theorem Hv.add (h : Hv hb n H vs w) {i : Nat} {l : List Int} {v : Value} (hi : H[i]? = some l) (hv : vs[i]? = some v) {x : Int} {g4 cap4 : Nat} (hnew : w'.ownsRow (hb + 1) 3 1 (.slice (some ⟨g4, 0, none⟩) (l.length + 1) cap4) (l.length + 1) (ints l ++ [.int .i64 x]))
    (hold : ∀ k, k < w.heap.size → v.ownBlock ≠ some k → w'.heap[k]? = w.heap[k]?) (hg : v.ownBlock = some g4 ∨ w.heap.size ≤ g4) :
    Hv hb n (H.set i (l ++ [x])) (vs.set i (.slice (some ⟨g4, 0, none⟩) (l.length + 1) cap4)) (w'.setCell ⟨hb, i, none⟩ (.slice (some ⟨g4, 0, none⟩) (l.length + 1) cap4)) := by
  have hov := h.own i l v hi hv
  have hil : i < n := by rw [← h.ln]; exact (List.getElem?_eq_some_iff.1 hi).1
  have hfx := h.fx.keep (hold _ h.fx.lt (own_fx hov h.fx (by decide)))
  refine ⟨by rw [List.length_set]; exact h.ln, by rw [List.length_set]; exact h.vl, hfx.set i _, fun j m u h1 h2 => ?_, fun j k a b g h1 h2 h3 h4 => ?_⟩
  · by_cases e : i = j
    · subst e
      rw [List.getElem?_set_self (by rw [h.ln]; exact hil)] at h1
      rw [List.getElem?_set_self (by rw [h.vl]; exact hil)] at h2
      cases h1
      cases h2
      rw [List.length_append, ints_snoc]
      exact owns_keep hnew fun g e => other_set fun e2 => own_fx hnew hfx (by decide) (e2 ▸ e)
    · rw [List.getElem?_set_ne e] at h1 h2
      have ho := h.own j m u h1 h2
      refine owns_keep ho fun g hgu => ?_
      rw [other_set fun (e2 : g = hb) => own_fx ho h.fx (by decide) (e2 ▸ hgu)]
      exact hold g (owns_lt ho hgu) fun e2 => e (h.apart i j v u g hv h2 e2 hgu)
  · have key : ∀ (j : Nat) (u : Value) (q : Nat), j ≠ i → vs[j]? = some u → u.ownBlock = some q → q ≠ g4 := by
      intro j u q hj hu hq e
      subst e
      have hm : j < H.length := by rw [h.ln, ← h.vl]; exact (List.getElem?_eq_some_iff.1 hu).1
      have ho := h.own j _ u (List.getElem?_eq_getElem hm) hu
      rcases hg with hg | hg
      · exact hj (h.apart i j v u _ hv hu hg hq).symm
      · have := owns_lt ho hq; omega
    by_cases ej : i = j
    · by_cases ek : i = k
      · omega
      · subst ej
        rw [List.getElem?_set_self (by rw [h.vl]; exact hil)] at h1
        rw [List.getElem?_set_ne ek] at h2
        cases h1
        have : g4 = g := by simpa [Value.ownBlock] using h3
        exact absurd this.symm (key k b g (Ne.symm ek) h2 h4)
    · rw [List.getElem?_set_ne ej] at h1
      by_cases ek : i = k
      · subst ek
        rw [List.getElem?_set_self (by rw [h.vl]; exact hil)] at h2
        cases h2
        have : g4 = g := by simpa [Value.ownBlock] using h4
        exact absurd this.symm (key j a g (Ne.symm ej) h1 h3)
      · rw [List.getElem?_set_ne ek] at h2
        exact h.apart j k a b g h1 h2 h3 h4
end
section
variable {wr w5 : World} {ob : Obj} {v : Value} {hb : Nat}
theorem grown_low (hgrow : (wr.alloc ob).drew.grownBy w5 v.ownBlock) (hv : ∀ g, v.ownBlock = some g → hb ≤ g) (hs : hb ≤ wr.heap.size) : Below hb wr w5 := by
  have h1 : Below hb wr (wr.alloc ob).drew := ((below_new wr ob).mono hs).drew
  refine h1.trans ⟨hgrow.os, hgrow.tape, hgrow.output, hgrow.size, fun k hk => hgrow.block k ?_ fun e => ?_⟩
  · have : (wr.alloc ob).drew.heap.size = wr.heap.size + 1 := by show (wr.alloc ob).heap.size = _; simp
    omega
  · have := hv k e.symm; omega
theorem grown_old2 (hgrow : (wr.alloc ob).drew.grownBy w5 v.ownBlock) {k : Nat} (hk : k < wr.heap.size) (hn : v.ownBlock ≠ some k) : w5.heap[k]? = wr.heap[k]? := by
  refine (hgrow.block k ?_ fun e => hn e.symm).trans ((below_new wr ob).block k hk)
  have : (wr.alloc ob).drew.heap.size = wr.heap.size + 1 := by show (wr.alloc ob).heap.size = _; simp
  omega
end
end Go.Proofs.Ytdmnoeooljofcaa
/- Stub: this seat has no such searches. -/
