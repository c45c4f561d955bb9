import Derived.Test.YtmlhcncagdfjfaaGreatVisit
namespace Go.Proofs.YtmlhcncagdfjfaaGreat
open Go.RowKit
def bitM (t : Int) : Int := if t = 1 then 1 else if t = 2 then 2 else if t = 3 then 4 else 8
def hb (x t : Int) : Bool := bits .and .u8 x (bitM t) != 0
def cC (x t : Int) : Int := bits .or .u8 x (bitM t)
def hs (m : List Int) (q t : Int) : Bool := hb (m.getD q.toNat 0) t
def aq (T : Th) (r : Int) : List Int := ((T.rules[r.toNat]?).map RuleM.body).getD []
def cT (T : Th) (m : List Int) (r t : Int) : Bool := (aq T r).all fun x => hs m x t
def dV (T : Th) (m : List Int) (r t : Int) : Bool := (aq T r).any fun x => hs m x t
def kS (r : RuleM) : Bool := decide (r.kind = 1)
def kT (r : RuleM) : Bool := !decide (r.kind = 3)
def kA (_ : RuleM) : Bool := true
def dG (T : Th) (p : RuleM → Bool) (z : Int) (a : Nat) : Bool := match T.rules[a]? with
 | some x => p x && decide (x.head = z)
 | none => false
def bD (T : Th) (p : RuleM → Bool) (k : Nat) (z : Int) : List Int := ((List.range k).filter (dG T p z)).map Int.ofNat
def ae (T : Th) (p : RuleM → Bool) (z : Int) : List Int := bD T p T.rules.length z
def bu (T : Th) (t s : Int) : Bool := decide (s ∈ row T.beats t)
def plusS (T : Th) (F m : List Int) (q : Int) : Bool := decide (q ∈ F) || (ae T kS q).any fun r => cT T m r 1
def minusS (T : Th) (F m : List Int) (q : Int) : Bool := !decide (q ∈ F) && (ae T kS q).all fun r => dV T m r 2
def oA (T : Th) (m : List Int) (q s : Int) : Bool := dV T m s 4 || (ae T kT q).any fun t => bu T t s && cT T m t 3
def plusD (T : Th) (m : List Int) (q : Int) : Bool :=
 hs m q 1 || ((ae T kT q).any (fun r => cT T m r 3) && (row T.foes q).all (fun f => hs m f 2) && (row T.foes q).all fun f => (ae T kA f).all fun s => oA T m q s)
def nX (T : Th) (m : List Int) (q s : Int) : Bool := cT T m s 3 && (ae T kT q).all fun t => dV T m t 4 || !bu T t s
def minusD (T : Th) (m : List Int) (q : Int) : Bool :=
 hs m q 2 && ((ae T kT q).all (fun r => dV T m r 4) || (row T.foes q).any (fun f => hs m f 1) || (row T.foes q).any fun f => (ae T kA f).any fun s => nX T m q s)
def bh (T : Th) (F m : List Int) (t q : Int) : Bool := if t = 1 then plusS T F m q else if t = 2 then minusS T F m q else if t = 3 then plusD T m q else minusD T m q
def fP (T : Th) (F m : List Int) (q t x : Int) : Int := if !hs m q t && bh T F m t q then cC x t else x
def lI (T : Th) (F m : List Int) (q : Int) (k : Nat) (x : Int) : Int := match k with
 | 0 => x
 | k + 1 => fP T F m q ((k : Int) + 1) (lI T F m q k x)
def bP (T : Th) (F m : List Int) : List Int := (List.range m.length).map fun q : Nat => lI T F m q 4 (m.getD q 0)
def bG (T : Th) (F : List Int) : Nat → List Int → List Int
 | 0, m => m
 | k + 1, m => bG T F k (bP T F m)
def gA (T : Th) (F m : List Int) (k : Nat) : Prop := m = bG T F k (List.replicate T.lits.toNat 0) ∧ bP T F m = m
def dS (T : Th) (F : List Int) : Int := if (dW T).1 ≠ 0 then (dW T).1 else if cK F T.lits then 0 else 181
theorem ji {T : Th} {F m : List Int} : (bP T F m).length = m.length := by unfold bP; simp
theorem pT {T : Th} {F : List Int} : ∀ {k : Nat} {m : List Int}, (bG T F k m).length = m.length
 | 0, m => rfl
 | k + 1, m => by rw [bG, pT, ji]
theorem hU {T : Th} {F : List Int} : ∀ {k : Nat} {m : List Int}, bG T F (k + 1) m = bP T F (bG T F k m)
 | 0, m => rfl
 | k + 1, m => by rw [bG, hU]; rfl
theorem l5 {T : Th} {F : List Int} {j : Nat} {m : List Int} : ∀ {k : Nat}, bG T F (j + k) m = bG T F k (bG T F j m)
 | 0 => rfl
 | k + 1 => by rw [← Nat.add_assoc, hU, l5, ← hU]
theorem lX {T : Th} {F m : List Int} (h : bP T F m = m) : ∀ {k : Nat}, bG T F k m = m
 | 0 => rfl
 | k + 1 => by rw [bG, h, lX h]
theorem yx {T : Th} {F m m' : List Int} {k k' : Nat} (h : gA T F m k) (h' : gA T F m' k') : m = m' := by
 obtain ⟨h1, h2⟩ := h
 obtain ⟨h3, h4⟩ := h'
 rcases Nat.le_total k k' with hk | hk
 · obtain ⟨d, rfl⟩ := Nat.exists_eq_add_of_le hk
   rw [l5, ← h1, lX h2] at h3
   exact h3.symm
 · obtain ⟨d, rfl⟩ := Nat.exists_eq_add_of_le hk
   rw [l5, ← h3, lX h4] at h1
   exact h1
theorem dU {T : Th} {p : RuleM → Bool} {k : Nat} {z : Int} : bD T p (k + 1) z = if dG T p z k then bD T p k z ++ [(k : Int)] else bD T p k z := by
 unfold bD
 rw [List.range_succ, List.filter_append, List.map_append]
 cases h : dG T p z k <;> simp [h]
theorem bE {T : Th} {p : RuleM → Bool} {k : Nat} {z : Int} : (bD T p k z).length ≤ k := by
 unfold bD
 rw [List.length_map]
 exact Nat.le_trans (List.length_filter_le _ _) (by simp)
theorem eU {T : Th} {p : RuleM → Bool} {k : Nat} {z x : Int} (h : x ∈ bD T p k z) : 0 ≤ x ∧ x < (k : Int) := by
 unfold bD at h
 obtain ⟨a, ha, rfl⟩ := List.mem_map.1 h
 have := List.mem_range.1 (List.mem_filter.1 ha).1
 exact ⟨Int.natCast_nonneg _, by show (a : Int) < k; omega⟩
theorem cg {T : Th} {p : RuleM → Bool} {z x : Int} : x ∈ ae T p z ↔ ∃ (a : Nat) (r : RuleM), x = (a : Int) ∧ T.rules[a]? = some r ∧ p r = true ∧ r.head = z := by
 unfold ae bD
 rw [List.mem_map]
 constructor
 · rintro ⟨a, ha, rfl⟩
   have h2 := (List.mem_filter.1 ha).2
   unfold dG at h2
   split at h2
   · rename_i r hr
     simp at h2
     exact ⟨a, r, rfl, hr, h2.1, h2.2⟩
   · cases h2
 · rintro ⟨a, r, rfl, hr, h1, h2⟩
   refine ⟨a, List.mem_filter.2 ⟨List.mem_range.2 (List.getElem?_eq_some_iff.1 hr).1, ?_⟩, rfl⟩
   unfold dG
   rw [hr]
   simp [h1, h2]
theorem vB {α : Type} {l : List α} {a q : Nat} {v d : α} (ha : a < l.length) : (l.set a v).getD q d = if q = a then v else l.getD q d := by
 rw [List.getD_eq_getElem?_getD, List.getD_eq_getElem?_getD, List.getElem?_set]
 by_cases e : a = q
 · subst e; simp [ha]
 · have : ¬ q = a := fun x => e x.symm
   simp [e, this]
structure B6 (T : Th) (p : RuleM → Bool) (n k : Nat) (H : List (List Int)) : Prop where
 ln : H.length = n
 at_ : ∀ z : Nat, z < n → H.getD z [] = bD T p k z
section
variable {T : Th} {p : RuleM → Bool} {n k : Nat} {H : List (List Int)} {R : RuleM}
def yR (T : Th) (p : RuleM → Bool) (n : Nat) : List (List Int) := (List.range n).map fun z : Nat => ae T p z
end
structure B4 (n : Nat) (l : List Int) (R : List Bool) : Prop where
 ln : R.length = n
 at_ : ∀ z : Nat, z < n → R.getD z false = decide ((z : Int) ∈ l)
end Go.Proofs.YtmlhcncagdfjfaaGreat
namespace Go.Proofs.YtmlhcncagdfjfaaGreat.De
open Go.RowKit
structure StM where
 tag : Int
 lit : Int
 how : Int
 rule : Int
 ch : List (Int × Int)
 deriving DecidableEq
def qo (T : Th) (q : Int) (a : Nat) : Bool := match T.rules[a]? with
 | some x => decide (q ∈ row T.foes x.head)
 | none => false
def ij (T : Th) (k : Nat) (q : Int) : List Int := ((List.range k).filter (qo T q)).map Int.ofNat
def aT (T : Th) (q : Int) : List Int := ij T T.rules.length q
def ga (T : Th) (k : Nat) (q s : Int) : List Int := (bD T kT k q).filter fun t => bu T t s
def bn (T : Th) (q s : Int) : List Int := ga T T.rules.length q s
abbrev bB := List (Int × Int)
def eK (T : Th) (r t : Int) : bB := (aq T r).map fun x => (x, t)
def om (T : Th) (r : Int) (c : Int × Int) : Bool := decide (c.2 = -1) && cJ c.1 (aq T r).length
def refX (T : Th) (t r : Int) (c : Int × Int) : Bool × bB := if om T r c then (true, [((aq T r).getD c.1.toNat 0, t)]) else (false, [])
def zP (T : Th) (q r : Int) (c : Int × Int) : Bool := decide (c.1 = -1) && decide (c.2 ∈ bn T q r)
def betX (T : Th) (q r : Int) (c : Int × Int) : Bool × bB := if zP T q r c then (true, eK T c.2 3) else (false, [])
def ansX (T : Th) (q r : Int) (c : Int × Int) : Bool × bB := if om T r c then refX T 4 r c else betX T q r c
def dD (f : Int → Int × Int → Bool × bB) : List Int → List (Int × Int) → Bool × bB
 | r :: rs, c :: cs => if (f r c).1 then ((dD f rs cs).1, (f r c).2 ++ (dD f rs cs).2) else (false, (f r c).2)
 | _, _ => (true, [])
def eachM (f : Int → Int × Int → Bool × bB) (rs : List Int) (cs : List (Int × Int)) : Bool × bB := if cs.length ≠ rs.length then (false, []) else dD f rs cs
def bareM (s : StM) : Bool := decide (s.rule = -1) && s.ch.isEmpty
def jS (s : StM) : Bool × bB := (bareM s, [])
def rowStrict (T : Th) (s : StM) : Bool × bB := if s.rule ∈ ae T kS s.lit ∧ s.ch = [] then (true, eK T s.rule 1) else (false, [])
def rowNoStrict (T : Th) (s : StM) : Bool × bB := if s.rule = -1 then eachM (refX T 2) (ae T kS s.lit) s.ch else (false, [])
def jX (s : StM) : Bool × bB := (bareM s, [(s.lit, 1)])
def rowRule (T : Th) (s : StM) : Bool × bB := if s.rule ∈ ae T kT s.lit then ((eachM (ansX T s.lit) (aT T s.lit) s.ch).1, eK T s.rule 3 ++ ((row T.foes s.lit).map fun x => (x, 2)) ++ (eachM (ansX T s.lit) (aT T s.lit) s.ch).2) else (false, [])
def rowNoRule (T : Th) (s : StM) : Bool × bB := if s.rule = -1 then ((eachM (refX T 4) (ae T kT s.lit) s.ch).1, (s.lit, 2) :: (eachM (refX T 4) (ae T kT s.lit) s.ch).2) else (false, [(s.lit, 2)])
def rowFoe (T : Th) (s : StM) : Bool × bB := if s.rule ∈ row T.foes s.lit ∧ s.ch = [] then (true, [(s.lit, 2), (s.rule, 1)]) else (false, [])
def rowBeaten (T : Th) (s : StM) : Bool × bB := if s.rule ∈ aT T s.lit then ((eachM (refX T 4) (bn T s.lit s.rule) s.ch).1, (s.lit, 2) :: eK T s.rule 3 ++ (eachM (refX T 4) (bn T s.lit s.rule) s.ch).2) else (false, [])
def lY (T : Th) (s : StM) : Bool × bB :=
 if s.tag = 1 ∧ s.how = 1 then jS s else if s.tag = 1 ∧ s.how = 2 then rowStrict T s else if s.tag = 2 ∧ s.how = 3 then rowNoStrict T s
 else if s.tag = 3 ∧ s.how = 4 then jX s else if s.tag = 3 ∧ s.how = 2 then rowRule T s
 else if s.tag = 4 ∧ s.how = 3 then rowNoRule T s else if s.tag = 4 ∧ s.how = 4 then rowFoe T s else if s.tag = 4 ∧ s.how = 5 then rowBeaten T s else (false, [])
def formM (T : Th) (s : StM) : Bool × bB := if cJ s.lit T.lits then lY T s else (false, [])
theorem ny {T : Th} {k : Nat} {q x : Int} (h : x ∈ ij T k q) : 0 ≤ x ∧ x < (k : Int) := by
 unfold ij at h
 obtain ⟨a, ha, rfl⟩ := List.mem_map.1 h
 have := List.mem_range.1 (List.mem_filter.1 ha).1
 exact ⟨Int.natCast_nonneg _, by show (a : Int) < k; omega⟩
theorem wu {T : Th} {k : Nat} {q : Int} : ij T (k + 1) q = if qo T q k then ij T k q ++ [(k : Int)] else ij T k q := by
 unfold ij
 rw [List.range_succ, List.filter_append, List.map_append]
 cases h : qo T q k <;> simp [h]
theorem uE {T : Th} {k : Nat} {q s : Int} : ga T (k + 1) q s = if dG T kT q k && bu T k s then ga T k q s ++ [(k : Int)] else ga T k q s := by
 unfold ga
 rw [dU]
 cases h : dG T kT q k with
 | false => simp
 | true => simp [List.filter_append, List.filter_cons]; split <;> simp_all
theorem lE {T : Th} {k : Nat} {q s x : Int} (h : x ∈ ga T k q s) : 0 ≤ x ∧ x < (k : Int) := eU (List.mem_filter.1 h).1
end Go.Proofs.YtmlhcncagdfjfaaGreat.De
