import Derived.Test.YtmlhcncagdfjfaaGreatVisit
namespace Go.Proofs.YtmlhcncagdfjfaaGreat
open Go.RowKit
def bitM (t : Int) : Int := if t = 1 then 1 else if t = 2 then 2 else if t = 3 then 4 else 8
def hb (x t : Int) : Bool := bits .and .u8 x (bitM t) != 0
def cC (x t : Int) : Int := bits .or .u8 x (bitM t)
def hs (m : List Int) (q t : Int) : Bool := hb (m.getD q.toNat 0) t
def au (T : Th) (r : Int) : List Int := ((T.rules[r.toNat]?).map RuleM.body).getD []
def cO (T : Th) (m : List Int) (r t : Int) : Bool := (au T r).all fun x => hs m x t
def dT (T : Th) (m : List Int) (r t : Int) : Bool := (au T r).any fun x => hs m x t
def kS (r : RuleM) : Bool := decide (r.kind = 1)
def kT (r : RuleM) : Bool := !decide (r.kind = 3)
def kA (_ : RuleM) : Bool := true
def dF (T : Th) (p : RuleM → Bool) (z : Int) (a : Nat) : Bool := match T.rules[a]? with
 | some x => p x && decide (x.head = z)
 | none => false
def bD (T : Th) (p : RuleM → Bool) (k : Nat) (z : Int) : List Int := ((List.range k).filter (dF T p z)).map Int.ofNat
def ae (T : Th) (p : RuleM → Bool) (z : Int) : List Int := bD T p T.rules.length z
def bn (T : Th) (t s : Int) : Bool := decide (s ∈ row T.beats t)
def plusS (T : Th) (F m : List Int) (q : Int) : Bool := decide (q ∈ F) || (ae T kS q).any fun r => cO T m r 1
def minusS (T : Th) (F m : List Int) (q : Int) : Bool := !decide (q ∈ F) && (ae T kS q).all fun r => dT T m r 2
def oA (T : Th) (m : List Int) (q s : Int) : Bool := dT T m s 4 || (ae T kT q).any fun t => bn T t s && cO T m t 3
def plusD (T : Th) (m : List Int) (q : Int) : Bool :=
 hs m q 1 || ((ae T kT q).any (fun r => cO T m r 3) && (row T.foes q).all (fun f => hs m f 2) && (row T.foes q).all fun f => (ae T kA f).all fun s => oA T m q s)
def oC (T : Th) (m : List Int) (q s : Int) : Bool := cO T m s 3 && (ae T kT q).all fun t => dT T m t 4 || !bn T t s
def minusD (T : Th) (m : List Int) (q : Int) : Bool :=
 hs m q 2 && ((ae T kT q).all (fun r => dT T m r 4) || (row T.foes q).any (fun f => hs m f 1) || (row T.foes q).any fun f => (ae T kA f).any fun s => oC T m q s)
def aZ (T : Th) (F m : List Int) (t q : Int) : Bool := if t = 1 then plusS T F m q else if t = 2 then minusS T F m q else if t = 3 then plusD T m q else minusD T m q
def fL (T : Th) (F m : List Int) (q t x : Int) : Int := if !hs m q t && aZ T F m t q then cC x t else x
def lF (T : Th) (F m : List Int) (q : Int) (k : Nat) (x : Int) : Int := match k with
 | 0 => x
 | k + 1 => fL T F m q ((k : Int) + 1) (lF T F m q k x)
def bM (T : Th) (F m : List Int) : List Int := (List.range m.length).map fun q : Nat => lF T F m q 4 (m.getD q 0)
def bF (T : Th) (F : List Int) : Nat → List Int → List Int
 | 0, m => m
 | k + 1, m => bF T F k (bM T F m)
def gA (T : Th) (F m : List Int) (k : Nat) : Prop := m = bF T F k (List.replicate T.lits.toNat 0) ∧ bM T F m = m
def dQ (T : Th) (F : List Int) : Int := if (dV T).1 ≠ 0 then (dV T).1 else if cK F T.lits then 0 else 181
theorem jp {T : Th} {F m : List Int} : (bM T F m).length = m.length := by unfold bM; simp
theorem pG {T : Th} {F : List Int} : ∀ {k : Nat} {m : List Int}, (bF T F k m).length = m.length
 | 0, m => rfl
 | k + 1, m => by rw [bF, pG, jp]
theorem g8 {T : Th} {F : List Int} : ∀ {k : Nat} {m : List Int}, bF T F (k + 1) m = bM T F (bF T F k m)
 | 0, m => rfl
 | k + 1, m => by rw [bF, g8]; rfl
theorem mr {T : Th} {F : List Int} {j : Nat} {m : List Int} : ∀ {k : Nat}, bF T F (j + k) m = bF T F k (bF T F j m)
 | 0 => rfl
 | k + 1 => by rw [← Nat.add_assoc, g8, mr, ← g8]
theorem mL {T : Th} {F m : List Int} (h : bM T F m = m) : ∀ {k : Nat}, bF T F k m = m
 | 0 => rfl
 | k + 1 => by rw [bF, h, mL h]
theorem yt {T : Th} {F m m' : List Int} {k k' : Nat} (h : gA T F m k) (h' : gA T F m' k') : m = m' := by
 obtain ⟨h1, h2⟩ := h
 obtain ⟨h3, h4⟩ := h'
 rcases Nat.le_total k k' with hk | hk
 · obtain ⟨d, rfl⟩ := Nat.exists_eq_add_of_le hk
   rw [mr, ← h1, mL h2] at h3
   exact h3.symm
 · obtain ⟨d, rfl⟩ := Nat.exists_eq_add_of_le hk
   rw [mr, ← h3, mL h4] at h1
   exact h1
theorem dS {T : Th} {p : RuleM → Bool} {k : Nat} {z : Int} : bD T p (k + 1) z = if dF T p z k then bD T p k z ++ [(k : Int)] else bD T p k z := by
 unfold bD
 rw [List.range_succ, List.filter_append, List.map_append]
 cases h : dF T p z k <;> simp [h]
theorem bC {T : Th} {p : RuleM → Bool} {k : Nat} {z : Int} : (bD T p k z).length ≤ k := by
 unfold bD
 rw [List.length_map]
 exact Nat.le_trans (List.length_filter_le _ _) (by simp)
theorem eI {T : Th} {p : RuleM → Bool} {k : Nat} {z x : Int} (h : x ∈ bD T p k z) : 0 ≤ x ∧ x < (k : Int) := by
 unfold bD at h
 obtain ⟨a, ha, rfl⟩ := List.mem_map.1 h
 have := List.mem_range.1 (List.mem_filter.1 ha).1
 exact ⟨Int.natCast_nonneg _, by show (a : Int) < k; omega⟩
theorem bX {T : Th} {p : RuleM → Bool} {z x : Int} : x ∈ ae T p z ↔ ∃ (a : Nat) (r : RuleM), x = (a : Int) ∧ T.rules[a]? = some r ∧ p r = true ∧ r.head = z := by
 unfold ae bD
 rw [List.mem_map]
 constructor
 · rintro ⟨a, ha, rfl⟩
   have h2 := (List.mem_filter.1 ha).2
   unfold dF at h2
   split at h2
   · rename_i r hr
     simp at h2
     exact ⟨a, r, rfl, hr, h2.1, h2.2⟩
   · cases h2
 · rintro ⟨a, r, rfl, hr, h1, h2⟩
   refine ⟨a, List.mem_filter.2 ⟨List.mem_range.2 (List.getElem?_eq_some_iff.1 hr).1, ?_⟩, rfl⟩
   unfold dF
   rw [hr]
   simp [h1, h2]
theorem vP {α : Type} {l : List α} {a q : Nat} {v d : α} (ha : a < l.length) : (l.set a v).getD q d = if q = a then v else l.getD q d := by
 rw [List.getD_eq_getElem?_getD, List.getD_eq_getElem?_getD, List.getElem?_set]
 by_cases e : a = q
 · subst e; simp [ha]
 · have : ¬ q = a := fun x => e x.symm
   simp [e, this]
structure B3 (T : Th) (p : RuleM → Bool) (n k : Nat) (H : List (List Int)) : Prop where
 ln : H.length = n
 at_ : ∀ z : Nat, z < n → H.getD z [] = bD T p k z
section
variable {T : Th} {p : RuleM → Bool} {n k : Nat} {H : List (List Int)} {R : RuleM}
def yI (T : Th) (p : RuleM → Bool) (n : Nat) : List (List Int) := (List.range n).map fun z : Nat => ae T p z
end
structure B5 (n : Nat) (l : List Int) (R : List Bool) : Prop where
 ln : R.length = n
 at_ : ∀ z : Nat, z < n → R.getD z false = decide ((z : Int) ∈ l)
end Go.Proofs.YtmlhcncagdfjfaaGreat
namespace Go.Proofs.YtmlhcncagdfjfaaGreat.De
open Go.RowKit
structure StM where
 tag : Int
 lit : Int
 how : Int
 rule : Int
 ch : List (Int × Int)
 deriving DecidableEq
def pS (T : Th) (q : Int) (a : Nat) : Bool := match T.rules[a]? with
 | some x => decide (q ∈ row T.foes x.head)
 | none => false
def ii (T : Th) (k : Nat) (q : Int) : List Int := ((List.range k).filter (pS T q)).map Int.ofNat
def aS (T : Th) (q : Int) : List Int := ii T T.rules.length q
def gd (T : Th) (k : Nat) (q s : Int) : List Int := (bD T kT k q).filter fun t => bn T t s
def bg (T : Th) (q s : Int) : List Int := gd T T.rules.length q s
abbrev bA := List (Int × Int)
def ew (T : Th) (r t : Int) : bA := (au T r).map fun x => (x, t)
def oy (T : Th) (r : Int) (c : Int × Int) : Bool := decide (c.2 = -1) && cJ c.1 (au T r).length
def refX (T : Th) (t r : Int) (c : Int × Int) : Bool × bA := if oy T r c then (true, [((au T r).getD c.1.toNat 0, t)]) else (false, [])
def zQ (T : Th) (q r : Int) (c : Int × Int) : Bool := decide (c.1 = -1) && decide (c.2 ∈ bg T q r)
def betX (T : Th) (q r : Int) (c : Int × Int) : Bool × bA := if zQ T q r c then (true, ew T c.2 3) else (false, [])
def ansX (T : Th) (q r : Int) (c : Int × Int) : Bool × bA := if oy T r c then refX T 4 r c else betX T q r c
def dE (f : Int → Int × Int → Bool × bA) : List Int → List (Int × Int) → Bool × bA
 | r :: rs, c :: cs => if (f r c).1 then ((dE f rs cs).1, (f r c).2 ++ (dE f rs cs).2) else (false, (f r c).2)
 | _, _ => (true, [])
def eachM (f : Int → Int × Int → Bool × bA) (rs : List Int) (cs : List (Int × Int)) : Bool × bA := if cs.length ≠ rs.length then (false, []) else dE f rs cs
def bareM (s : StM) : Bool := decide (s.rule = -1) && s.ch.isEmpty
def jR (s : StM) : Bool × bA := (bareM s, [])
def rowStrict (T : Th) (s : StM) : Bool × bA := if s.rule ∈ ae T kS s.lit ∧ s.ch = [] then (true, ew T s.rule 1) else (false, [])
def rowNoStrict (T : Th) (s : StM) : Bool × bA := if s.rule = -1 then eachM (refX T 2) (ae T kS s.lit) s.ch else (false, [])
def jM (s : StM) : Bool × bA := (bareM s, [(s.lit, 1)])
def rowRule (T : Th) (s : StM) : Bool × bA := if s.rule ∈ ae T kT s.lit then ((eachM (ansX T s.lit) (aS T s.lit) s.ch).1, ew T s.rule 3 ++ ((row T.foes s.lit).map fun x => (x, 2)) ++ (eachM (ansX T s.lit) (aS T s.lit) s.ch).2) else (false, [])
def rowNoRule (T : Th) (s : StM) : Bool × bA := if s.rule = -1 then ((eachM (refX T 4) (ae T kT s.lit) s.ch).1, (s.lit, 2) :: (eachM (refX T 4) (ae T kT s.lit) s.ch).2) else (false, [(s.lit, 2)])
def rowFoe (T : Th) (s : StM) : Bool × bA := if s.rule ∈ row T.foes s.lit ∧ s.ch = [] then (true, [(s.lit, 2), (s.rule, 1)]) else (false, [])
def rowBeaten (T : Th) (s : StM) : Bool × bA := if s.rule ∈ aS T s.lit then ((eachM (refX T 4) (bg T s.lit s.rule) s.ch).1, (s.lit, 2) :: ew T s.rule 3 ++ (eachM (refX T 4) (bg T s.lit s.rule) s.ch).2) else (false, [])
def lX (T : Th) (s : StM) : Bool × bA :=
 if s.tag = 1 ∧ s.how = 1 then jR s else if s.tag = 1 ∧ s.how = 2 then rowStrict T s else if s.tag = 2 ∧ s.how = 3 then rowNoStrict T s
 else if s.tag = 3 ∧ s.how = 4 then jM s else if s.tag = 3 ∧ s.how = 2 then rowRule T s
 else if s.tag = 4 ∧ s.how = 3 then rowNoRule T s else if s.tag = 4 ∧ s.how = 4 then rowFoe T s else if s.tag = 4 ∧ s.how = 5 then rowBeaten T s else (false, [])
def formM (T : Th) (s : StM) : Bool × bA := if cJ s.lit T.lits then lX T s else (false, [])
theorem ny {T : Th} {k : Nat} {q x : Int} (h : x ∈ ii T k q) : 0 ≤ x ∧ x < (k : Int) := by
 unfold ii at h
 obtain ⟨a, ha, rfl⟩ := List.mem_map.1 h
 have := List.mem_range.1 (List.mem_filter.1 ha).1
 exact ⟨Int.natCast_nonneg _, by show (a : Int) < k; omega⟩
theorem vy {T : Th} {k : Nat} {q : Int} : ii T (k + 1) q = if pS T q k then ii T k q ++ [(k : Int)] else ii T k q := by
 unfold ii
 rw [List.range_succ, List.filter_append, List.map_append]
 cases h : pS T q k <;> simp [h]
theorem tX {T : Th} {k : Nat} {q s : Int} : gd T (k + 1) q s = if dF T kT q k && bn T k s then gd T k q s ++ [(k : Int)] else gd T k q s := by
 unfold gd
 rw [dS]
 cases h : dF T kT q k with
 | false => simp
 | true => simp [List.filter_append, List.filter_cons]; split <;> simp_all
theorem lC {T : Th} {k : Nat} {q s x : Int} (h : x ∈ gd T k q s) : 0 ≤ x ∧ x < (k : Int) := eI (List.mem_filter.1 h).1
end Go.Proofs.YtmlhcncagdfjfaaGreat.De
