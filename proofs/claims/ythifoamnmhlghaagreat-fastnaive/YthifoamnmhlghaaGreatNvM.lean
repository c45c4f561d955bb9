import Derived.Test.YthifoamnmhlghaaGreatCheck
import Derived.BigQuiet
namespace Go.Proofs.YthifoamnmhlghaaGreat
open Go.RowKit
def bitM (t : Int) : Int := if t = 1 then 1 else if t = 2 then 2 else if t = 3 then 4 else 8
def hb (x t : Int) : Bool := bits .and .u8 x (bitM t) != 0
def cw (x t : Int) : Int := bits .or .u8 x (bitM t)
def hs (m : List Int) (q t : Int) : Bool := hb (m.getD q.toNat 0) t
def aB (T : Th) (r : Int) : List Int := ((T.rules[r.toNat]?).map RuleM.body).getD []
def wholeB (T : Th) (m : List Int) (r t : Int) : Bool := (aB T r).all fun x => hs m x t
def partB (T : Th) (m : List Int) (r t : Int) : Bool := (aB T r).any fun x => hs m x t
def kS (r : RuleM) : Bool := decide (r.kind = 1)
def kT (r : RuleM) : Bool := !decide (r.kind = 3)
def kA (_ : RuleM) : Bool := true
def cF (T : Th) (p : RuleM → Bool) (z : Int) (a : Nat) : Bool := match T.rules[a]? with
 | some x => p x && decide (x.head = z)
 | none => false
def bQ (T : Th) (p : RuleM → Bool) (k : Nat) (z : Int) : List Int := ((List.range k).filter (cF T p z)).map Int.ofNat
def af (T : Th) (p : RuleM → Bool) (z : Int) : List Int := bQ T p T.rules.length z
def beatB (T : Th) (t s : Int) : Bool := decide (s ∈ row T.beats t)
def plusS (T : Th) (F m : List Int) (q : Int) : Bool := decide (q ∈ F) || (af T kS q).any fun r => wholeB T m r 1
def minusS (T : Th) (F m : List Int) (q : Int) : Bool := !decide (q ∈ F) && (af T kS q).all fun r => partB T m r 2
def gi (T : Th) (m : List Int) (q s : Int) : Bool := partB T m s 4 || (af T kT q).any fun t => beatB T t s && wholeB T m t 3
def plusD (T : Th) (m : List Int) (q : Int) : Bool :=
 hs m q 1 || ((af T kT q).any (fun r => wholeB T m r 3) && (row T.foes q).all (fun f => hs m f 2) && (row T.foes q).all fun f => (af T kA f).all fun s => gi T m q s)
def gh (T : Th) (m : List Int) (q s : Int) : Bool := wholeB T m s 3 && (af T kT q).all fun t => partB T m t 4 || !beatB T t s
def minusD (T : Th) (m : List Int) (q : Int) : Bool :=
 hs m q 2 && ((af T kT q).all (fun r => partB T m r 4) || (row T.foes q).any (fun f => hs m f 1) || (row T.foes q).any fun f => (af T kA f).any fun s => gh T m q s)
def dl (T : Th) (F m : List Int) (t q : Int) : Bool := if t = 1 then plusS T F m q else if t = 2 then minusS T F m q else if t = 3 then plusD T m q else minusD T m q
def dy (T : Th) (F m : List Int) (q t x : Int) : Int := if !hs m q t && dl T F m t q then cw x t else x
def bC (T : Th) (F m : List Int) (q : Int) (k : Nat) (x : Int) : Int := match k with
 | 0 => x
 | k + 1 => dy T F m q ((k : Int) + 1) (bC T F m q k x)
def aK (T : Th) (F m : List Int) : List Int := (List.range m.length).map fun q : Nat => bC T F m q 4 (m.getD q 0)
def bn (T : Th) (F : List Int) : Nat → List Int → List Int
 | 0, m => m
 | k + 1, m => bn T F k (aK T F m)
def bo (T : Th) (F m : List Int) (k : Nat) : Prop := m = bn T F k (List.replicate T.lits.toNat 0) ∧ aK T F m = m
def faultM (T : Th) (F : List Int) : Int := if (dt T).1 ≠ 0 then (dt T).1 else if bT F T.lits then 0 else 181
theorem cu {T : Th} {F m : List Int} : (aK T F m).length = m.length := by unfold aK; simp
theorem np {T : Th} {F : List Int} : ∀ {k : Nat} {m : List Int}, (bn T F k m).length = m.length
 | 0, m => rfl
 | k + 1, m => by rw [bn, np, cu]
theorem fX {T : Th} {F : List Int} : ∀ {k : Nat} {m : List Int}, bn T F (k + 1) m = aK T F (bn T F k m)
 | 0, m => rfl
 | k + 1, m => by rw [bn, fX]; rfl
theorem j6 {T : Th} {F : List Int} {j : Nat} {m : List Int} : ∀ {k : Nat}, bn T F (j + k) m = bn T F k (bn T F j m)
 | 0 => rfl
 | k + 1 => by rw [← Nat.add_assoc, fX, j6, ← fX]
theorem kt {T : Th} {F m : List Int} (h : aK T F m = m) : ∀ {k : Nat}, bn T F k m = m
 | 0 => rfl
 | k + 1 => by rw [bn, h, kt h]
theorem lY {T : Th} {F m m' : List Int} {k k' : Nat} (h : bo T F m k) (h' : bo T F m' k') : m = m' := by
 obtain ⟨h1, h2⟩ := h
 obtain ⟨h3, h4⟩ := h'
 rcases Nat.le_total k k' with hk | hk
 · obtain ⟨d, rfl⟩ := Nat.exists_eq_add_of_le hk
   rw [j6, ← h1, kt h2] at h3
   exact h3.symm
 · obtain ⟨d, rfl⟩ := Nat.exists_eq_add_of_le hk
   rw [j6, ← h3, kt h4] at h1
   exact h1
theorem dJ {T : Th} {p : RuleM → Bool} {k : Nat} {z : Int} : bQ T p (k + 1) z = if cF T p z k then bQ T p k z ++ [(k : Int)] else bQ T p k z := by
 unfold bQ
 rw [List.range_succ, List.filter_append, List.map_append]
 cases h : cF T p z k <;> simp [h]
theorem ee {T : Th} {p : RuleM → Bool} {k : Nat} {z : Int} : (bQ T p k z).length ≤ k := by
 unfold bQ
 rw [List.length_map]
 exact Nat.le_trans (List.length_filter_le _ _) (by simp)
theorem ey {T : Th} {p : RuleM → Bool} {k : Nat} {z x : Int} (h : x ∈ bQ T p k z) : 0 ≤ x ∧ x < (k : Int) := by
 unfold bQ at h
 obtain ⟨a, ha, rfl⟩ := List.mem_map.1 h
 have := List.mem_range.1 (List.mem_filter.1 ha).1
 exact ⟨Int.natCast_nonneg _, by show (a : Int) < k; omega⟩
theorem bV {T : Th} {p : RuleM → Bool} {z x : Int} : x ∈ af T p z ↔ ∃ (a : Nat) (r : RuleM), x = (a : Int) ∧ T.rules[a]? = some r ∧ p r = true ∧ r.head = z := by
 unfold af bQ
 rw [List.mem_map]
 constructor
 · rintro ⟨a, ha, rfl⟩
   have h2 := (List.mem_filter.1 ha).2
   unfold cF at h2
   split at h2
   · rename_i r hr
     simp at h2
     exact ⟨a, r, rfl, hr, h2.1, h2.2⟩
   · cases h2
 · rintro ⟨a, r, rfl, hr, h1, h2⟩
   refine ⟨a, List.mem_filter.2 ⟨List.mem_range.2 (List.getElem?_eq_some_iff.1 hr).1, ?_⟩, rfl⟩
   unfold cF
   rw [hr]
   simp [h1, h2]
theorem jY {α : Type} {l : List α} {a q : Nat} {v d : α} (ha : a < l.length) : (l.set a v).getD q d = if q = a then v else l.getD q d := by
 rw [List.getD_eq_getElem?_getD, List.getD_eq_getElem?_getD, List.getElem?_set]
 by_cases e : a = q
 · subst e; simp [ha]
 · have : ¬ q = a := fun x => e x.symm
   simp [e, this]
structure Grp (T : Th) (p : RuleM → Bool) (n k : Nat) (H : List (List Int)) : Prop where
 ln : H.length = n
 at_ : ∀ z : Nat, z < n → H.getD z [] = bQ T p k z
section
variable {T : Th} {p : RuleM → Bool} {n k : Nat} {H : List (List Int)} {R : RuleM}
theorem Grp.start (T : Th) (p : RuleM → Bool) (n : Nat) : Grp T p n 0 (List.replicate n []) := by
 refine ⟨by simp, fun z hz => ?_⟩
 rw [List.getD_eq_getElem?_getD, List.getElem?_replicate]
 simp [hz, bQ]
theorem Grp.skip (h : Grp T p n k H) (hr : T.rules[k]? = some R) (hk : p R = false) : Grp T p n (k + 1) H := by
 refine ⟨h.ln, fun z hz => ?_⟩
 rw [h.at_ z hz, dJ]
 have : cF T p z k = false := by unfold cF; rw [hr]; simp [hk]
 simp [this]
theorem Grp.add {y : Nat} (h : Grp T p n k H) (hr : T.rules[k]? = some R) (hk : p R = true) (hy : R.head = (y : Int)) (hyn : y < n) : Grp T p n (k + 1) (H.set y (H.getD y [] ++ [(k : Int)])) := by
 refine ⟨by rw [List.length_set]; exact h.ln, fun z hz => ?_⟩
 rw [jY (by rw [h.ln]; exact hyn), dJ]
 by_cases e : z = y
 · subst e
   have : cF T p z k = true := by unfold cF; rw [hr]; simp [hk, hy]
   rw [if_pos rfl, h.at_ z hz, this]
   rfl
 · have : cF T p z k = false := by
    have hne : ¬ R.head = (z : Int) := by omega
    unfold cF; rw [hr]; simp [hne]
   rw [if_neg e, h.at_ z hz, this]
   rfl
theorem Grp.row_le (h : Grp T p n k H) {z : Nat} {m : List Int} (hm : H[z]? = some m) : m.length ≤ k := by
 have hz : z < n := by rw [← h.ln]; exact (List.getElem?_eq_some_iff.1 hm).1
 have := h.at_ z hz
 rw [List.getD_eq_getElem?_getD, hm] at this
 have e : m = _ := this
 rw [e]
 exact ee
def nz (T : Th) (p : RuleM → Bool) (n : Nat) : List (List Int) := (List.range n).map fun z : Nat => af T p z
theorem eT {z : Nat} (hz : z < n) : (nz T p n)[z]? = some (af T p z) := by unfold nz; rw [List.getElem?_map, List.getElem?_range hz]; rfl
theorem Grp.done (h : Grp T p n T.rules.length H) : H = nz T p n := by
 apply List.ext_getElem?
 intro z
 by_cases hz : z < n
 · have := h.at_ z hz
   rw [eT hz, List.getElem?_eq_getElem (by rw [h.ln]; exact hz)]
   rw [List.getD_eq_getElem?_getD, List.getElem?_eq_getElem (by rw [h.ln]; exact hz)] at this
   exact congrArg some this
 · rw [List.getElem?_eq_none (by rw [h.ln]; omega), List.getElem?_eq_none (by unfold nz; simp; omega)]
end
structure Fcs (n : Nat) (l : List Int) (R : List Bool) : Prop where
 ln : R.length = n
 at_ : ∀ z : Nat, z < n → R.getD z false = decide ((z : Int) ∈ l)
theorem Fcs.start (n : Nat) : Fcs n [] (List.replicate n false) := ⟨by simp, fun z hz => by rw [List.getD_eq_getElem?_getD, List.getElem?_replicate]; simp [hz]⟩
theorem Fcs.add {n : Nat} {l : List Int} {R : List Bool} {y : Nat} (h : Fcs n l R) (hy : y < n) : Fcs n (l ++ [(y : Int)]) (R.set y true) := by
 refine ⟨by rw [List.length_set]; exact h.ln, fun z hz => ?_⟩
 rw [jY (by rw [h.ln]; exact hy)]
 by_cases e : z = y
 · subst e; rw [if_pos rfl]; simp
 · rw [if_neg e, h.at_ z hz]
   have : ((z : Int) = (y : Int)) ↔ False := by constructor; intro h; omega; exact False.elim
   simp [this]
end Go.Proofs.YthifoamnmhlghaaGreat
namespace Go.Proofs.YthifoamnmhlghaaGreat
open Go.RowKit
structure Hv (hb n : Nat) (H : List (List Int)) (vs : List Value) (w : World) : Prop where
 ln : H.length = n
 vl : vs.length = n
 fx : Fx hb 26 vs w
 own : ∀ (i : Nat) l v, H[i]? = some l → vs[i]? = some v → w.ownsRow (hb + 1) 3 1 v l.length (av l)
 apart : ∀ (i j : Nat) v u g, vs[i]? = some v → vs[j]? = some u → v.ownBlock = some g → u.ownBlock = some g → i = j
section
variable {hb n : Nat} {H : List (List Int)} {vs : List Value} {w w' : World}
theorem Hv.keep (h : Hv hb n H vs w) (hk : ∀ g, hb ≤ g → g < w.heap.size → w'.heap[g]? = w.heap[g]?) : Hv hb n H vs w' := by
 refine ⟨h.ln, h.vl, h.fx.keep (hk _ (Nat.le_refl _) h.fx.lt), fun i l v h1 h2 => owns_keep (h.own i l v h1 h2) fun g hg => hk g ?_ (aA (h.own i l v h1 h2) hg), h.apart⟩
 have := ((h.own i l v h1 h2).lt g hg).1
 omega
theorem Hv.go (h : Hv hb n H vs w) (hb' : Below w.heap.size w w') : Hv hb n H vs w' := h.keep fun g _ hg => hb'.block g hg
theorem Hv.at (h : Hv hb n H vs w) {i : Nat} (hi : i < n) : ∃ l a c, H[i]? = some l ∧ vs[i]? = some (.slice a l.length c) ∧ w.cell? ⟨hb, i, none⟩ = some (.slice a l.length c) ∧ w.ownsRow (hb + 1) 3 1 (.slice a l.length c) l.length (av l) := by
 obtain ⟨l, h1⟩ := ap (l := H) (i := i) (by rw [h.ln]; exact hi)
 obtain ⟨v, h2⟩ := ap (l := vs) (i := i) (by rw [h.vl]; exact hi)
 have ho := h.own i _ _ h1 h2
 obtain ⟨a, c, e⟩ := bg ho
 rw [e] at ho h2
 exact ⟨l, a, c, h1, h2, h.fx.get h2, ho⟩
theorem Hv.start (w : World) (n : Nat) : Hv w.heap.size n (List.replicate n []) (List.replicate n (.slice none 0 0)) (w.alloc (.cells (Array.replicate n (.slice none 0 0)) 26)) := by
 refine ⟨by simp, by simp, ?_, fun i l v h1 h2 => ?_, fun i j v u g h1 h2 h3 => ?_⟩
 · unfold Fx
   rw [heap_alloc_new]
   simp
 · rw [List.getElem?_replicate] at h1 h2
   split at h1
   · rename_i hi
     rw [if_pos hi] at h2
     cases h1
     cases h2
     exact ⟨rfl, .inl ⟨rfl, rfl⟩⟩
   · cases h1
 · rw [List.getElem?_replicate] at h1
   split at h1
   · cases h1; cases h3
   · cases h1
theorem Hv.add (h : Hv hb n H vs w) {i : Nat} {l : List Int} {v : Value} (hi : H[i]? = some l) (hv : vs[i]? = some v) {x : Int} {g4 cap4 : Nat} (hnew : w'.ownsRow (hb + 1) 3 1 (.slice (some ⟨g4, 0, none⟩) (l.length + 1) cap4) (l.length + 1) (av l ++ [.int .i64 x]))
    (hold : ∀ k, k < w.heap.size → v.ownBlock ≠ some k → w'.heap[k]? = w.heap[k]?) (hg : v.ownBlock = some g4 ∨ w.heap.size ≤ g4) :
    Hv hb n (H.set i (l ++ [x])) (vs.set i (.slice (some ⟨g4, 0, none⟩) (l.length + 1) cap4)) (w'.setCell ⟨hb, i, none⟩ (.slice (some ⟨g4, 0, none⟩) (l.length + 1) cap4)) := by
 have hov := h.own i l v hi hv
 have hil : i < n := by rw [← h.ln]; exact (List.getElem?_eq_some_iff.1 hi).1
 have hfx := h.fx.keep (hold _ h.fx.lt (ao hov h.fx (by decide)))
 refine ⟨by rw [List.length_set]; exact h.ln, by rw [List.length_set]; exact h.vl, hfx.set i _, fun j m u h1 h2 => ?_, fun j k a b g h1 h2 h3 h4 => ?_⟩
 · by_cases e : i = j
   · subst e
     rw [List.getElem?_set_self (by rw [h.ln]; exact hil)] at h1
     rw [List.getElem?_set_self (by rw [h.vl]; exact hil)] at h2
     cases h1
     cases h2
     rw [List.length_append, cU]
     exact owns_keep hnew fun g e => other_set fun e2 => ao hnew hfx (by decide) (e2 ▸ e)
   · rw [List.getElem?_set_ne e] at h1 h2
     have ho := h.own j m u h1 h2
     refine owns_keep ho fun g hgu => ?_
     rw [other_set fun (e2 : g = hb) => ao ho h.fx (by decide) (e2 ▸ hgu)]
     exact hold g (aA ho hgu) fun e2 => e (h.apart i j v u g hv h2 e2 hgu)
 · have key : ∀ (j : Nat) (u : Value) (q : Nat), j ≠ i → vs[j]? = some u → u.ownBlock = some q → q ≠ g4 := by
    intro j u q hj hu hq e
    subst e
    have hm : j < H.length := by rw [h.ln, ← h.vl]; exact (List.getElem?_eq_some_iff.1 hu).1
    have ho := h.own j _ u (List.getElem?_eq_getElem hm) hu
    rcases hg with hg | hg
    · exact hj (h.apart i j v u _ hv hu hg hq).symm
    · have := aA ho hq; omega
   by_cases ej : i = j
   · by_cases ek : i = k
     · omega
     · subst ej
       rw [List.getElem?_set_self (by rw [h.vl]; exact hil)] at h1
       rw [List.getElem?_set_ne ek] at h2
       cases h1
       have : g4 = g := by simpa [Value.ownBlock] using h3
       exact absurd this.symm (key k b g (Ne.symm ek) h2 h4)
   · rw [List.getElem?_set_ne ej] at h1
     by_cases ek : i = k
     · subst ek
       rw [List.getElem?_set_self (by rw [h.vl]; exact hil)] at h2
       cases h2
       have : g4 = g := by simpa [Value.ownBlock] using h4
       exact absurd this.symm (key j a g (Ne.symm ej) h1 h3)
     · rw [List.getElem?_set_ne ek] at h2
       exact h.apart j k a b g h1 h2 h3 h4
end
section
variable {wr w5 : World} {ob : Obj} {v : Value} {hb : Nat}
theorem aQ (hgrow : (wr.alloc ob).drew.grownBy w5 v.ownBlock) (hv : ∀ g, v.ownBlock = some g → hb ≤ g) (hs : hb ≤ wr.heap.size) : Below hb wr w5 := by
 have h1 : Below hb wr (wr.alloc ob).drew := ((aa wr ob).mono hs).drew
 refine h1.trans ⟨hgrow.os, hgrow.tape, hgrow.output, hgrow.size, fun k hk => hgrow.block k ?_ fun e => ?_⟩
 · have : (wr.alloc ob).drew.heap.size = wr.heap.size + 1 := by show (wr.alloc ob).heap.size = _; simp
   omega
 · have := hv k e.symm; omega
theorem aj (hgrow : (wr.alloc ob).drew.grownBy w5 v.ownBlock) {k : Nat} (hk : k < wr.heap.size) (hn : v.ownBlock ≠ some k) : w5.heap[k]? = wr.heap[k]? := by
 refine (hgrow.block k ?_ fun e => hn e.symm).trans ((aa wr ob).block k hk)
 have : (wr.alloc ob).drew.heap.size = wr.heap.size + 1 := by show (wr.alloc ob).heap.size = _; simp
 omega
end
end Go.Proofs.YthifoamnmhlghaaGreat
set_option maxRecDepth 100000
set_option maxHeartbeats 3200000
namespace Go.Proofs.YthifoamnmhlghaaGreat
open Go.RowKit
def Ts (w : World) (p : Int → Bool) (D : Int → Prop) (v : Value) : Prop :=
 ∃ (k : Nat) (caps : Array Value), v = .func (.func k) #[] caps ∧ (∀ args w', (callFunc k args).run Tryz.prog w' = .ok (.enter k args) w') ∧
  ∀ (x : Int) (w' : World), D x → Below w.heap.size w w' → Calls Tryz.prog k (#[.int .i64 x] ++ caps) w' fun e w2 => e = .returned (.bool (p x)) ∧ Below w'.heap.size w' w2
theorem Ts.go {w w' : World} {p : Int → Bool} {D : Int → Prop} {v : Value} (h : Ts w p D v) (hb : Below w.heap.size w w') : Ts w' p D v := by
 obtain ⟨k, caps, e, hf, hc⟩ := h
 exact ⟨k, caps, e, hf, fun x w2 hx h2 => hc x w2 hx (hb.trans (h2.mono hb.size))⟩
theorem sY {p : Int → Bool} {l : List Int} {k : Nat} {x : Int} (hx : l[k]? = some x) (h : p x = true) : (l.drop k).all p = (l.drop (k + 1)).all p := by rw [cn hx, List.all_cons, h, Bool.true_and]
theorem tT {p : Int → Bool} {l : List Int} {k : Nat} {x : Int} (hx : l[k]? = some x) (h : p x = false) : (l.drop k).all p = false := by rw [cn hx, List.all_cons, h, Bool.false_and]
theorem jL {p : Int → Bool} {l : List Int} {k : Nat} {x : Int} (hx : l[k]? = some x) (h : p x = true) : (l.drop k).any p = true := by rw [cn hx, List.any_cons, h, Bool.true_or]
theorem jB {p : Int → Bool} {l : List Int} {k : Nat} {x : Int} (hx : l[k]? = some x) (h : p x = false) : (l.drop k).any p = (l.drop (k + 1)).any p := by rw [cn hx, List.any_cons, h, Bool.false_or]
section
variable {w : World} {p : Int → Bool} {D : Int → Prop} {v : Value} {l : List Int} {a : Option Addr} {c : Nat}
theorem ei (h : Ts w p D v) (hl : At1 w a (av l)) (hlim : l.length ≤ 140737488351232) (hin : ∀ x ∈ l, D x) :
    Calls Tryz.prog 87 #[.slice a l.length c, v] w fun e w' => e = .returned (.bool (l.all p)) ∧ Below w.heap.size w w' := by
 obtain ⟨fn, caps, rfl, hf, hc⟩ := h
 have HC := hide hc
 have HL := hide hl
 have HIN := hide hin
 obtain ⟨o, ho⟩ : ∃ o, l.all p = o := ⟨_, rfl⟩
 rw [ho]
 have HO : Hid ((l.drop 0).all p = o) := hide (by rw [List.drop_zero]; exact ho)
 clear hl hin ho hc
 go_enter Tryz.func87, Tryz.ntmps87
 go_wp2_with fail
 go_loopw [9] (fun x wr => ∃ k : Nat, k ≤ l.length ∧ x = .int .i64 k ∧ Hid ((l.drop k).all p = o) ∧ Hid (Below w.heap.size w wr)) (fun x _ => l.length - (intOf x).toNat)
 case atStart => exact ⟨0, by omega, rfl, HO, hide (Below.refl _ _)⟩
 case round =>
  clear HO
  obtain ⟨k, hk, rfl, HO, HB⟩ := hrel
  by_cases hlt : k < l.length
  · obtain ⟨x, hx⟩ := ap hlt
    obtain ⟨g, gg, rfl, cx⟩ := (HL.out.below HB.out).get hx
    have C := hide (HC.out x wr (HIN.out x (List.mem_of_getElem? hx)) HB.out)
    cases hb : p x with
    | true =>
     have HE : Hid ((l.drop (k + 1)).all p = o) := hide (by rw [← HO.out]; exact (sY hx hb).symm)
     rw [hb] at C
     clear hb hx HO
     go_wp2_with fail
     refine C.out.mono ?_
     rintro _ w2 ⟨rfl, hb2⟩
     have HB2 := hide (HB.out.trans (hb2.mono HB.out.size))
     clear hb2
     go_wp2_with fail
     go_roundw
     case rel => exact ⟨k + 1, by omega, by go_num, HE, HB2⟩
     case measure => simp [intOf]; omega
    | false =>
     have HE : Hid (o = false) := hide (by rw [← HO.out]; exact tT hx hb)
     rw [hb] at C
     clear hb hx HO
     go_wp2_with fail
     refine C.out.mono ?_
     rintro _ w2 ⟨rfl, hb2⟩
     have HB2 := hide (HB.out.trans (hb2.mono HB.out.size))
     clear hb2
     go_wp2_with fail
     go_ret
     exact ⟨by rw [HE.out]; rfl, HB2.out⟩
  · have HE : Hid (o = true) := hide (by rw [← HO.out, bR (by omega)]; rfl)
    go_wp2_with fail
    go_ret
    exact ⟨by rw [HE.out]; rfl, HB.out⟩
def uf (o : Bool) (i : Int) : Prop := (o = true → 0 ≤ i) ∧ (o = false → i = -1)
theorem rm (h : Ts w p D v) (hl : At1 w a (av l)) (hlim : l.length ≤ 140737488351232) (hin : ∀ x ∈ l, D x) :
    Calls Tryz.prog 106 #[.slice a l.length c, v] w fun e w' => ∃ i : Int, e = .returned (.int .i64 i) ∧ uf (l.any p) i ∧ Below w.heap.size w w' := by
 obtain ⟨fn, caps, rfl, hf, hc⟩ := h
 have HC := hide hc
 have HL := hide hl
 have HIN := hide hin
 obtain ⟨o, ho⟩ : ∃ o, l.any p = o := ⟨_, rfl⟩
 rw [ho]
 have HO : Hid ((l.drop 0).any p = o) := hide (by rw [List.drop_zero]; exact ho)
 clear hl hin ho hc
 go_enter Tryz.func106, Tryz.ntmps106
 go_wp2_with fail
 go_loopw [8] (fun x wr => ∃ k : Nat, k ≤ l.length ∧ x = .int .i64 k ∧ Hid ((l.drop k).any p = o) ∧ Hid (Below w.heap.size w wr)) (fun x _ => l.length - (intOf x).toNat)
 case atStart => exact ⟨0, by omega, rfl, HO, hide (Below.refl _ _)⟩
 case round =>
  clear HO
  obtain ⟨k, hk, rfl, HO, HB⟩ := hrel
  by_cases hlt : k < l.length
  · obtain ⟨x, hx⟩ := ap hlt
    obtain ⟨g, gg, rfl, cx⟩ := (HL.out.below HB.out).get hx
    have C := hide (HC.out x wr (HIN.out x (List.mem_of_getElem? hx)) HB.out)
    cases hb : p x with
    | true =>
     have HE : Hid (o = true) := hide (by rw [← HO.out]; exact jL hx hb)
     rw [hb] at C
     clear hb hx HO
     go_wp2_with fail
     refine C.out.mono ?_
     rintro _ w2 ⟨rfl, hb2⟩
     have HB2 := hide (HB.out.trans (hb2.mono HB.out.size))
     clear hb2
     go_wp2_with fail
     go_ret
     exact ⟨k, rfl, ⟨fun _ => by omega, fun e => by rw [HE.out] at e; cases e⟩, HB2.out⟩
    | false =>
     have HE : Hid ((l.drop (k + 1)).any p = o) := hide (by rw [← HO.out]; exact (jB hx hb).symm)
     rw [hb] at C
     clear hb hx HO
     go_wp2_with fail
     refine C.out.mono ?_
     rintro _ w2 ⟨rfl, hb2⟩
     have HB2 := hide (HB.out.trans (hb2.mono HB.out.size))
     clear hb2
     go_wp2_with fail
     go_roundw
     case rel => exact ⟨k + 1, by omega, by go_num, HE, HB2⟩
     case measure => simp [intOf]; omega
  · have HE : Hid (o = false) := hide (by rw [← HO.out, bR (by omega)]; rfl)
    go_wp2_with fail
    go_ret
    exact ⟨-1, rfl, ⟨fun e => absurd e (by rw [HE.out]; decide), fun _ => rfl⟩, HB.out⟩
theorem nZ (h : Ts w p D v) (hl : At1 w a (av l)) (hlim : l.length ≤ 140737488351232) (hin : ∀ x ∈ l, D x) :
    Calls Tryz.prog 78 #[.slice a l.length c, v] w fun e w' => e = .returned (.bool (l.any p)) ∧ Below w.heap.size w w' := by
 have CI := hide (rm (c := c) h hl hlim hin)
 obtain ⟨fn, caps, rfl, hf, hc⟩ := h
 obtain ⟨o, ho⟩ : ∃ o, l.any p = o := ⟨_, rfl⟩
 rw [ho] at CI ⊢
 clear hl hin ho hc
 go_enter Tryz.func78, Tryz.ntmps78
 cases o with
 | true =>
  go_wp2_with (go_at_call 106; refine CI.out.mono ?_; rintro _ w2 ⟨i, rfl, hi, hb⟩; have HB := hide hb; have hi0 : 0 ≤ i := hi.1 rfl; have hid : decide (0 ≤ i) = true := decide_eq_true hi0; clear hb hi)
  go_ret
  exact ⟨bE (by simp), HB.out⟩
 | false =>
  go_wp2_with (go_at_call 106; refine CI.out.mono ?_; rintro _ w2 ⟨i, rfl, hi, hb⟩; have HB := hide hb; have hi0 : i = -1 := hi.2 rfl; subst hi0; clear hb hi)
  go_ret
  exact ⟨rfl, HB.out⟩
theorem eK (h : Ts w p D v) (hl : At1 w a (av l)) (hlim : l.length ≤ 140737488351232) (hin : ∀ x ∈ l, D x) :
    Calls Tryz.prog 84 #[.slice a l.length c, v] w fun e w' => e = .returned (.bool (l.any p)) ∧ Below w.heap.size w w' := by
 have CI := hide (nZ (c := c) h hl hlim hin)
 obtain ⟨fn, caps, rfl, hf, hc⟩ := h
 obtain ⟨o, ho⟩ : ∃ o, l.any p = o := ⟨_, rfl⟩
 rw [ho] at CI ⊢
 clear hl hin ho hc
 go_enter Tryz.func84, Tryz.ntmps84
 go_wp2_with (go_at_call 78; refine CI.out.mono ?_; rintro _ w2 ⟨rfl, hb⟩; have HB := hide hb; clear hb)
 go_ret
 exact ⟨rfl, HB.out⟩
end
end Go.Proofs.YthifoamnmhlghaaGreat
set_option maxRecDepth 100000
set_option maxHeartbeats 3200000
namespace Go.Proofs.YthifoamnmhlghaaGreat
open Go.RowKit
structure Pf (T : Th) (F : List Int) (n : Nat) : Prop where
 ok : ue T
 ln : T.lits = (n : Int)
 n4 : n ≤ 4096
 foe : ∀ q : Nat, q < n → ∀ f ∈ row T.foes q, 0 ≤ f ∧ f < (n : Int)
 head : ∀ r ∈ T.rules, 0 ≤ r.head ∧ r.head < (n : Int)
 body : ∀ r ∈ T.rules, ∀ x ∈ r.body, 0 ≤ x ∧ x < (n : Int)
 beat : ∀ l ∈ T.beats, l.Pairwise (· < ·)
 fact : ∀ x ∈ F, 0 ≤ x ∧ x < (n : Int)
theorem bG {b : Int} : ∀ {l : List Int} {p : Int}, -1 ≤ p → bW b p l = true → (∀ x ∈ l, p < x ∧ x < b) ∧ l.Pairwise (· < ·)
 | [], _, _, _ => ⟨fun x hx => (by cases hx), List.Pairwise.nil⟩
 | y :: l, p, hp, h => by
  unfold bW at h
  split at h
  · cases h
  · rename_i hn
    obtain ⟨h1, h2⟩ := bG (p := y) (by omega) h
    refine ⟨fun x hx => ?_, List.pairwise_cons.2 ⟨fun x hx => (h1 x hx).1, h2⟩⟩
    rcases List.mem_cons.1 hx with rfl | hx
    · omega
    · have := h1 x hx; omega
theorem kI {T : Th} {F : List Int} (h : faultM T F = 0) : Pf T F T.lits.toNat := by
 unfold faultM at h
 by_cases hc : (dt T).1 ≠ 0
 · rw [if_pos hc] at h; exact absurd h hc
 · rw [if_neg hc] at h
   have hok := rM (Classical.not_not.1 hc)
   have h0 := hok.l0
   have h1 := hok.l1
   have hfl := hok.fl
   have hr : bT F T.lits = true := by
    cases e : bT F T.lits with
    | true => rfl
    | false => rw [e] at h; cases h
   obtain ⟨f1, f2⟩ := bG (by omega) hr
   refine ⟨hok, by omega, by omega, fun q hq f hf => ?_, fun r hr => ?_, fun r hr x hx => ?_, fun l hl => ?_, fun x hx => ?_⟩
   · obtain ⟨l, hl⟩ := ap (l := T.foes) (i := q) (by omega)
     rw [bS (by rw [Int.toNat_natCast]; exact hl)] at hf
     have := (bG (by omega) (hok.foe q l hl).2.1).1 f hf
     omega
   · have := hok.rule r hr
     exact ⟨this.2.2.1, by have := this.2.2.2.1; omega⟩
   · have := (bG (by omega) (hok.rule r hr).2.2.2.2.2).1 x hx
     omega
   · obtain ⟨i, hi⟩ := List.mem_iff_getElem?.1 hl
     exact (bG (by omega) (hok.beat i l hi).1).2
   · have := f1 x hx
     omega
def b5 (l : List Int) : List Value := l.map (Value.int .u8)
theorem eB {l : List Int} {i : Nat} (hi : i < l.length) : (b5 l)[i]? = some (.int .u8 (l.getD i 0)) := by
 unfold b5
 rw [List.getElem?_map, List.getElem?_eq_getElem hi]
 simp [List.getD, hi]
theorem cW {l : List Int} : (b5 l).length = l.length := by unfold b5; simp
def lX (F : List Int) (n : Nat) : List Bool := (List.range n).map fun q : Nat => decide ((q : Int) ∈ F)
theorem oD {F : List Int} {n q : Nat} (hq : q < n) : (dY (lX F n))[q]? = some (.bool (decide ((q : Int) ∈ F))) := by unfold dY lX; rw [List.getElem?_map, List.getElem?_map, List.getElem?_range hq]; rfl
structure Ka where
 fa : Option Addr
 fc : Nat
 ra : Option Addr
 rc : Nat
 ba : Option Addr
 bc : Nat
 fb : Nat
 s0 : Nat
 s1 : Nat
 s2 : Nat
abbrev tJ (A : Ka) (T : Th) (n : Nat) (mv : Value) : List Value := [.int .i64 T.lits, .slice A.fa T.foes.length A.fc, .slice A.ra T.rules.length A.rc, .slice A.ba T.beats.length A.bc, .slice (some ⟨A.fb, 0, none⟩) n n, .slice (some ⟨A.s0, 0, none⟩) n n, .slice (some ⟨A.s1, 0, none⟩) n n, .slice (some ⟨A.s2, 0, none⟩) n n, mv]
structure Kn (K : Nat) (A : Ka) (T : Th) (F : List Int) (n : Nat) (m : List Int) (ma : Option Addr) (mc : Nat) (w : World) : Prop where
 pf : Pf T F n
 bx : Fx K 63 (tJ A T n (.slice ma n mc)) w
 ta : TA w.heap.size w T A.fa A.fc A.ra A.rc A.ba A.bc
 ff : Fx A.fb 4 (dY (lX F n)) w
 l0 : Lists w.heap.size w (nz T kS n) (.slice (some ⟨A.s0, 0, none⟩) n n)
 l1 : Lists w.heap.size w (nz T kT n) (.slice (some ⟨A.s1, 0, none⟩) n n)
 l2 : Lists w.heap.size w (nz T kA n) (.slice (some ⟨A.s2, 0, none⟩) n n)
 ml : m.length = n
 mm : At1 w ma (b5 m)
section
variable {K n : Nat} {A : Ka} {T : Th} {F m : List Int} {ma : Option Addr} {mc : Nat} {w w' : World}
theorem Kn.go (h : Kn K A T F n m ma mc w) (hb : Below w.heap.size w w') : Kn K A T F n m ma mc w' :=
 ⟨h.pf, h.bx.keep (hb.block _ h.bx.lt), TR.go hb h.ta, h.ff.keep (hb.block _ h.ff.lt), Lists.go hb h.l0, Lists.go hb h.l1, Lists.go hb h.l2, h.ml, h.mm.below hb⟩
theorem Kn.drewN (h : Kn K A T F n m ma mc w) (q : Nat) : Kn K A T F n m ma mc (w.drewN q) := h.go (au w q)
def ax (t : Int) : Prop := t = 1 ∨ t = 2 ∨ t = 3 ∨ t = 4
theorem ix {t : Int} (ht : ax t) : Calls Tryz.prog 44 #[.int .i64 t] w fun e w' => e = .returned (.int .u8 (bitM t)) ∧ w' = w := by
 rcases ht with rfl | rfl | rfl | rfl
 all_goals
  go_enter Tryz.func44, Tryz.ntmps44
  go_wp2_with fail
  go_ret
  exact ⟨rfl, rfl⟩
theorem has_kn {q : Nat} {t : Int} (h : Kn K A T F n m ma mc w) (hq : q < n) (ht : ax t) :
    Calls Tryz.prog 43 #[ae K, .int .i64 q, .int .i64 t] w fun e w' => e = .returned (.bool (hs m q t)) ∧ Below w.heap.size w w' := by
 have k8 := h.bx.get (i := 8) rfl
 obtain ⟨g, o, rfl, cm⟩ := h.mm q _ (eB (by rw [h.ml]; exact hq))
 have CB := hide fun d : Nat => ix (w := w.drewN d) ht
 have HS : Hid ((bits .and .u8 (m.getD q 0) (bitM t) != 0) = hs m q t) := hide (by unfold hs hb; rw [Int.toNat_natCast])
 generalize hs m q t = o at *
 generalize m.getD q 0 = x at *
 generalize bitM t = y at *
 clear h ht
 go_enter Tryz.func43, Tryz.ntmps43
 go_upto_region 1 with fail
 go_quiet ((go_at_call 44; exact Calls.quiet_of_same (CB.out _)))
 go_wp2_with fail
 go_ret
 exact ⟨by rw [← HS.out]; rfl, au w _⟩
end
end Go.Proofs.YthifoamnmhlghaaGreat
