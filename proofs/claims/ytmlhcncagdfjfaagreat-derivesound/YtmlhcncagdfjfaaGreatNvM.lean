import Derived.Test.YtmlhcncagdfjfaaGreatVisit
namespace Go.Proofs.YtmlhcncagdfjfaaGreat
open Go.RowKit
def bitM (t : Int) : Int := if t = 1 then 1 else if t = 2 then 2 else if t = 3 then 4 else 8
def hb (x t : Int) : Bool := bits .and .u8 x (bitM t) != 0
def dt (x t : Int) : Int := bits .or .u8 x (bitM t)
def hs (m : List Int) (q t : Int) : Bool := hb (m.getD q.toNat 0) t
def az (T : Th) (r : Int) : List Int := ((T.rules[r.toNat]?).map RuleM.body).getD []
def wholeB (T : Th) (m : List Int) (r t : Int) : Bool := (az T r).all fun x => hs m x t
def partB (T : Th) (m : List Int) (r t : Int) : Bool := (az T r).any fun x => hs m x t
def kS (r : RuleM) : Bool := decide (r.kind = 1)
def kT (r : RuleM) : Bool := !decide (r.kind = 3)
def kA (_ : RuleM) : Bool := true
def bK (T : Th) (p : RuleM → Bool) (z : Int) (a : Nat) : Bool := match T.rules[a]? with
 | some x => p x && decide (x.head = z)
 | none => false
def bh (T : Th) (p : RuleM → Bool) (k : Nat) (z : Int) : List Int := ((List.range k).filter (bK T p z)).map Int.ofNat
def ag (T : Th) (p : RuleM → Bool) (z : Int) : List Int := bh T p T.rules.length z
def beatB (T : Th) (t s : Int) : Bool := decide (s ∈ row T.beats t)
def eE (T : Th) (F m : List Int) (q : Int) : Bool := decide (q ∈ F) || (ag T kS q).any fun r => wholeB T m r 1
def d8 (T : Th) (F m : List Int) (q : Int) : Bool := !decide (q ∈ F) && (ag T kS q).all fun r => partB T m r 2
def iK (T : Th) (m : List Int) (q s : Int) : Bool := partB T m s 4 || (ag T kT q).any fun t => beatB T t s && wholeB T m t 3
def plusD (T : Th) (m : List Int) (q : Int) : Bool :=
 hs m q 1 || ((ag T kT q).any (fun r => wholeB T m r 3) && (row T.foes q).all (fun f => hs m f 2) && (row T.foes q).all fun f => (ag T kA f).all fun s => iK T m q s)
def il (T : Th) (m : List Int) (q s : Int) : Bool := wholeB T m s 3 && (ag T kT q).all fun t => partB T m t 4 || !beatB T t s
def minusD (T : Th) (m : List Int) (q : Int) : Bool :=
 hs m q 2 && ((ag T kT q).all (fun r => partB T m r 4) || (row T.foes q).any (fun f => hs m f 1) || (row T.foes q).any fun f => (ag T kA f).any fun s => il T m q s)
def cH (T : Th) (F m : List Int) (t q : Int) : Bool := if t = 1 then eE T F m q else if t = 2 then d8 T F m q else if t = 3 then plusD T m q else minusD T m q
def dF (T : Th) (F m : List Int) (q t x : Int) : Int := if !hs m q t && cH T F m t q then dt x t else x
def bA (T : Th) (F m : List Int) (q : Int) (k : Nat) (x : Int) : Int := match k with
 | 0 => x
 | k + 1 => dF T F m q ((k : Int) + 1) (bA T F m q k x)
def aO (T : Th) (F m : List Int) : List Int := (List.range m.length).map fun q : Nat => bA T F m q 4 (m.getD q 0)
def gW (T : Th) (F : List Int) : Nat → List Int → List Int
 | 0, m => m
 | k + 1, m => gW T F k (aO T F m)
def pA (T : Th) (F m : List Int) (k : Nat) : Prop := m = gW T F k (List.replicate T.lits.toNat 0) ∧ aO T F m = m
def aX (T : Th) (F : List Int) : Int := if (cO T).1 ≠ 0 then (cO T).1 else if bP F T.lits then 0 else 181
theorem cV {T : Th} {F m : List Int} : (aO T F m).length = m.length := by unfold aO; simp
theorem qw {T : Th} {F : List Int} : ∀ {k : Nat} {m : List Int}, (gW T F k m).length = m.length
 | 0, m => rfl
 | k + 1, m => by rw [gW, qw, cV]
theorem oU {T : Th} {F : List Int} : ∀ {k : Nat} {m : List Int}, gW T F (k + 1) m = aO T F (gW T F k m)
 | 0, m => rfl
 | k + 1, m => by rw [gW, oU]; rfl
theorem cG {T : Th} {p : RuleM → Bool} {k : Nat} {z : Int} : bh T p (k + 1) z = if bK T p z k then bh T p k z ++ [(k : Int)] else bh T p k z := by
 unfold bh
 rw [List.range_succ, List.filter_append, List.map_append]
 cases h : bK T p z k <;> simp [h]
theorem bg {T : Th} {p : RuleM → Bool} {k : Nat} {z : Int} : (bh T p k z).length ≤ k := by
 unfold bh
 rw [List.length_map]
 exact Nat.le_trans (List.length_filter_le _ _) (by simp)
theorem bN {T : Th} {p : RuleM → Bool} {k : Nat} {z x : Int} (h : x ∈ bh T p k z) : 0 ≤ x ∧ x < (k : Int) := by
 unfold bh at h
 obtain ⟨a, ha, rfl⟩ := List.mem_map.1 h
 have := List.mem_range.1 (List.mem_filter.1 ha).1
 exact ⟨Int.natCast_nonneg _, by show (a : Int) < k; omega⟩
theorem i9 {T : Th} {p : RuleM → Bool} {z x : Int} : x ∈ ag T p z ↔ ∃ (a : Nat) (r : RuleM), x = (a : Int) ∧ T.rules[a]? = some r ∧ p r = true ∧ r.head = z := by
 unfold ag bh
 rw [List.mem_map]
 constructor
 ·rintro ⟨a, ha, rfl⟩
  have h2 := (List.mem_filter.1 ha).2
  unfold bK at h2
  split at h2
  ·rename_i r hr
   simp at h2
   exact ⟨a, r, rfl, hr, h2.1, h2.2⟩
  cases h2
 rintro ⟨a, r, rfl, hr, h1, h2⟩
 refine ⟨a, List.mem_filter.2 ⟨List.mem_range.2 (List.getElem?_eq_some_iff.1 hr).1, ?_⟩, rfl⟩
 unfold bK
 rw [hr]
 simp [h1, h2]
theorem mE {α : Type} {l : List α} {a q : Nat} {v d : α} (ha : a < l.length) : (l.set a v).getD q d = if q = a then v else l.getD q d := by
 rw [List.getD_eq_getElem?_getD, List.getD_eq_getElem?_getD, List.getElem?_set]
 by_cases e : a = q
 ·subst e; simp [ha]
 have : ¬ q = a := fun x => e x.symm
 simp [e, this]
structure Grp (T : Th) (p : RuleM → Bool) (n k : Nat) (H : List (List Int)) : Prop where
 ln : H.length = n
 at_ : ∀ z : Nat, z < n → H.getD z [] = bh T p k z
section
variable {T : Th} {p : RuleM → Bool} {n k : Nat} {H : List (List Int)} {R : RuleM}
theorem Grp.start (T : Th) (p : RuleM → Bool) (n : Nat) : Grp T p n 0 (List.replicate n []) := by
 refine ⟨by simp, fun z hz => ?_⟩
 rw [List.getD_eq_getElem?_getD, List.getElem?_replicate]
 simp [hz, bh]
theorem Grp.skip (h : Grp T p n k H) (hr : T.rules[k]? = some R) (hk : p R = false) : Grp T p n (k + 1) H := by
 refine ⟨h.ln, fun z hz => ?_⟩
 rw [h.at_ z hz, cG]
 have : bK T p z k = false := by unfold bK; rw [hr]; simp [hk]
 simp [this]
theorem Grp.add {y : Nat} (h : Grp T p n k H) (hr : T.rules[k]? = some R) (hk : p R = true) (hy : R.head = (y : Int)) (hyn : y < n) : Grp T p n (k + 1) (H.set y (H.getD y [] ++ [(k : Int)])) := by
 refine ⟨by rw [List.length_set]; exact h.ln, fun z hz => ?_⟩
 rw [mE (by rw [h.ln]; exact hyn), cG]
 by_cases e : z = y
 ·subst e
  have : bK T p z k = true := by unfold bK; rw [hr]; simp [hk, hy]
  rw [if_pos rfl, h.at_ z hz, this]
  rfl
 have : bK T p z k = false := by
  have Aa : ¬ R.head = (z : Int) := by omega
  unfold bK; rw [hr]; simp [Aa]
 rw [if_neg e, h.at_ z hz, this]
 rfl
theorem Grp.row_le (h : Grp T p n k H) {z : Nat} {m : List Int} (hm : H[z]? = some m) : m.length ≤ k := by
 have hz : z < n := by rw [← h.ln]; exact (List.getElem?_eq_some_iff.1 hm).1
 have := h.at_ z hz
 rw [List.getD_eq_getElem?_getD, hm] at this
 have e : m = _ := this
 rw [e]
 exact bg
def qH (T : Th) (p : RuleM → Bool) (n : Nat) : List (List Int) := (List.range n).map fun z : Nat => ag T p z
theorem fU {z : Nat} (hz : z < n) : (qH T p n)[z]? = some (ag T p z) := by unfold qH; rw [List.getElem?_map, List.getElem?_range hz]; rfl
theorem Grp.done (h : Grp T p n T.rules.length H) : H = qH T p n := by
 apply List.ext_getElem?
 intro z
 by_cases hz : z < n
 ·have := h.at_ z hz
  rw [fU hz, List.getElem?_eq_getElem (by rw [h.ln]; exact hz)]
  rw [List.getD_eq_getElem?_getD, List.getElem?_eq_getElem (by rw [h.ln]; exact hz)] at this
  exact congrArg some this
 rw [List.getElem?_eq_none (by rw [h.ln]; omega), List.getElem?_eq_none (by unfold qH; simp; omega)]
end
structure Fcs (n : Nat) (l : List Int) (R : List Bool) : Prop where
 ln : R.length = n
 at_ : ∀ z : Nat, z < n → R.getD z false = decide ((z : Int) ∈ l)
theorem Fcs.start (n : Nat) : Fcs n [] (List.replicate n false) := ⟨by simp, fun z hz => by rw [List.getD_eq_getElem?_getD, List.getElem?_replicate]; simp [hz]⟩
theorem Fcs.add {n : Nat} {l : List Int} {R : List Bool} {y : Nat} (h : Fcs n l R) (hy : y < n) : Fcs n (l ++ [(y : Int)]) (R.set y true) := by
 refine ⟨by rw [List.length_set]; exact h.ln, fun z hz => ?_⟩
 rw [mE (by rw [h.ln]; exact hy)]
 by_cases e : z = y
 ·subst e; rw [if_pos rfl]; simp
 rw [if_neg e, h.at_ z hz]
 have : ((z : Int) = (y : Int)) ↔ False := by constructor; intro h; omega; exact False.elim
 simp [this]
end Go.Proofs.YtmlhcncagdfjfaaGreat
namespace Go.Proofs.YtmlhcncagdfjfaaGreat.De
open Go.RowKit
structure StM where
 tag : Int
 lit : Int
 how : Int
 rule : Int
 ch : List (Int × Int)
 deriving DecidableEq
def lX (T : Th) (q : Int) (a : Nat) : Bool := match T.rules[a]? with
 | some x => decide (q ∈ row T.foes x.head)
 | none => false
def gd (T : Th) (k : Nat) (q : Int) : List Int := ((List.range k).filter (lX T q)).map Int.ofNat
def aG (T : Th) (q : Int) : List Int := gd T T.rules.length q
def eX (T : Th) (k : Nat) (q s : Int) : List Int := (bh T kT k q).filter fun t => beatB T t s
def aQ (T : Th) (q s : Int) : List Int := eX T T.rules.length q s
abbrev be := List (Int × Int)
def cS (T : Th) (r t : Int) : be := (az T r).map fun x => (x, t)
def jE (T : Th) (r : Int) (c : Int × Int) : Bool := decide (c.2 = -1) && bU c.1 (az T r).length
def refX (T : Th) (t r : Int) (c : Int × Int) : Bool × be := if jE T r c then (true, [((az T r).getD c.1.toNat 0, t)]) else (false, [])
def vM (T : Th) (q r : Int) (c : Int × Int) : Bool := decide (c.1 = -1) && decide (c.2 ∈ aQ T q r)
def betX (T : Th) (q r : Int) (c : Int × Int) : Bool × be := if vM T q r c then (true, cS T c.2 3) else (false, [])
def ansX (T : Th) (q r : Int) (c : Int × Int) : Bool × be := if jE T r c then refX T 4 r c else betX T q r c
def cg (f : Int → Int × Int → Bool × be) : List Int → List (Int × Int) → Bool × be
 | r :: rs, c :: cs => if (f r c).1 then ((cg f rs cs).1, (f r c).2 ++ (cg f rs cs).2) else (false, (f r c).2)
 | _, _ => (true, [])
def eachM (f : Int → Int × Int → Bool × be) (rs : List Int) (cs : List (Int × Int)) : Bool × be := if cs.length ≠ rs.length then (false, []) else cg f rs cs
def bareM (s : StM) : Bool := decide (s.rule = -1) && s.ch.isEmpty
def jw (s : StM) : Bool × be := (bareM s, [])
def rowStrict (T : Th) (s : StM) : Bool × be := if s.rule ∈ ag T kS s.lit ∧ s.ch = [] then (true, cS T s.rule 1) else (false, [])
def rowNoStrict (T : Th) (s : StM) : Bool × be := if s.rule = -1 then eachM (refX T 2) (ag T kS s.lit) s.ch else (false, [])
def gu (s : StM) : Bool × be := (bareM s, [(s.lit, 1)])
def rowRule (T : Th) (s : StM) : Bool × be := if s.rule ∈ ag T kT s.lit then ((eachM (ansX T s.lit) (aG T s.lit) s.ch).1, cS T s.rule 3 ++ ((row T.foes s.lit).map fun x => (x, 2)) ++ (eachM (ansX T s.lit) (aG T s.lit) s.ch).2) else (false, [])
def rowNoRule (T : Th) (s : StM) : Bool × be := if s.rule = -1 then ((eachM (refX T 4) (ag T kT s.lit) s.ch).1, (s.lit, 2) :: (eachM (refX T 4) (ag T kT s.lit) s.ch).2) else (false, [(s.lit, 2)])
def rowFoe (T : Th) (s : StM) : Bool × be := if s.rule ∈ row T.foes s.lit ∧ s.ch = [] then (true, [(s.lit, 2), (s.rule, 1)]) else (false, [])
def rowBeaten (T : Th) (s : StM) : Bool × be := if s.rule ∈ aG T s.lit then ((eachM (refX T 4) (aQ T s.lit s.rule) s.ch).1, (s.lit, 2) :: cS T s.rule 3 ++ (eachM (refX T 4) (aQ T s.lit s.rule) s.ch).2) else (false, [])
def jF (T : Th) (s : StM) : Bool × be :=
 if s.tag = 1 ∧ s.how = 1 then jw s else if s.tag = 1 ∧ s.how = 2 then rowStrict T s else if s.tag = 2 ∧ s.how = 3 then rowNoStrict T s
 else if s.tag = 3 ∧ s.how = 4 then gu s else if s.tag = 3 ∧ s.how = 2 then rowRule T s
 else if s.tag = 4 ∧ s.how = 3 then rowNoRule T s else if s.tag = 4 ∧ s.how = 4 then rowFoe T s else if s.tag = 4 ∧ s.how = 5 then rowBeaten T s else (false, [])
def formM (T : Th) (s : StM) : Bool × be := if bU s.lit T.lits then jF T s else (false, [])
theorem m5 {T : Th} {k : Nat} {q x : Int} (h : x ∈ gd T k q) : 0 ≤ x ∧ x < (k : Int) := by
 unfold gd at h
 obtain ⟨a, ha, rfl⟩ := List.mem_map.1 h
 have := List.mem_range.1 (List.mem_filter.1 ha).1
 exact ⟨Int.natCast_nonneg _, by show (a : Int) < k; omega⟩
theorem vK {T : Th} {k : Nat} {q : Int} : gd T (k + 1) q = if lX T q k then gd T k q ++ [(k : Int)] else gd T k q := by
 unfold gd
 rw [List.range_succ, List.filter_append, List.map_append]
 cases h : lX T q k <;> simp [h]
theorem uH {T : Th} {k : Nat} {q s : Int} : eX T (k + 1) q s = if bK T kT q k && beatB T k s then eX T k q s ++ [(k : Int)] else eX T k q s := by
 unfold eX
 rw [cG]
 cases h : bK T kT q k with
 | false => simp
 | true => simp [List.filter_append, List.filter_cons]; split <;> simp_all
theorem lE {T : Th} {k : Nat} {q s x : Int} (h : x ∈ eX T k q s) : 0 ≤ x ∧ x < (k : Int) := bN (List.mem_filter.1 h).1
end Go.Proofs.YtmlhcncagdfjfaaGreat.De
