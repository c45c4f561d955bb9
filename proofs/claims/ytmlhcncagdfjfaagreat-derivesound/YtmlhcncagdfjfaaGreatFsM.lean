import Derived.Test.YtmlhcncagdfjfaaGreatHrow
import Derived.Test.YtmlhcncagdfjfaaGreatWk
import Derived.BigQuiet
namespace Go.Proofs.YtmlhcncagdfjfaaGreat.Fa
open Go.RowKit
def aA {α : Type} (f : Int → α) (x : Int) (v : α) : Int → α := fun y => if y = x then v else f y
def dI {α : Type} (f : Bool → α) (b : Bool) (v : α) : Bool → α := fun c => if c = b then v else f c
theorem aL {α : Type} {f : Int → α} {x : Int} {v : α} : aA f x v x = v := if_pos rfl
theorem aS {α : Type} {f : Int → α} {x y : Int} {v : α} (h : y ≠ x) : aA f x v y = f y := if_neg h
theorem dx {α : Type} {f : Bool → α} {b : Bool} {v : α} : dI f b v b = v := if_pos rfl
theorem eK {α : Type} {f : Bool → α} {b c : Bool} {v : α} (h : c ≠ b) : dI f b v c = f c := if_neg h
def aE (u : Int) : Int := IntKind.i64.wrap (u + 1)
def lT (u : Int) : Int := IntKind.i64.wrap (u - 1)
structure Es where
 ms : Bool → Int → Int
 rf : Bool → Int → Bool
 op : Bool → Int → Int
 cd : Int → Int → Int
 cb : Int → Int → Bool
 ob : Int → Int
 mq : Int → Int
 td : List (Int × Int)
 tk : Nat
 up : Int
def has (e : Es) (q t : Int) : Bool := hb (e.mq q) t
def used (e : Es) (r : Int) : Bool := decide (e.ms true r = 0)
def dropped (e : Es) (r : Int) : Bool := e.rf true r
def kW (b : Bool) : RuleM → Bool := if b then kA else kS
def kL (b : Bool) : RuleM → Bool := if b then kT else kS
def bT (T : Th) (r : Int) : Bool := ((T.rules[r.toNat]?).map kT).getD false
def kg (T : Th) (p : RuleM → Bool) (z : Int) (a : Nat) : Bool := match T.rules[a]? with
 | some x => p x && decide (z ∈ x.body)
 | none => false
def dN (T : Th) (p : RuleM → Bool) (k : Nat) (z : Int) : List Int := ((List.range k).filter (kg T p z)).map Int.ofNat
def iE (T : Th) (b : Bool) (z : Int) : List Int := dN T (kW b) T.rules.length z
def ao (T : Th) (q : Int) : List Int := (row T.foes q).filter fun p => !(ag T kT p).isEmpty
def bI (T : Th) (F : List Int) (q : Int) : Bool := decide (q ∈ F) || !(ag T kS q).isEmpty
def tell (e : Es) (q t : Int) : Es := if has e q t then e else { e with mq := aA e.mq q (dt (e.mq q) t), td := e.td ++ [(q, t)], up := aE (aE e.up) }
def du (e : Es) (b : Bool) (r : Int) : Es := { e with ms := dI e.ms b (aA (e.ms b) r (lT (e.ms b r))), up := aE e.up }
def refE (e : Es) (b : Bool) (r : Int) : Es := if e.rf b r then e else { e with rf := dI e.rf b (aA (e.rf b) r true), up := aE e.up }
def cu (e : Es) (b : Bool) (h : Int) : Es := if 1 < e.op b h then { e with op := dI e.op b (aA (e.op b) h (lT (e.op b h))), up := aE e.up } else e
def ep (e : Es) (b : Bool) (h : Int) : Bool := decide (e.op b h = 1)
def fM (e : Es) (q : Int) : Es := { e with ob := aA e.ob q (lT (e.ob q)), up := aE e.up }
def dl (T : Th) (e : Es) (q : Int) : Es := if decide (e.ob q = 0) && (ag T kT q).any (used e) then tell e q 3 else e
def bJ (e : Es) (q : Int) : Es := if has e q 2 then tell e q 4 else e
def lD (T : Th) (e : Es) (q : Int) : Bool := !(ag T kT q).any fun r => !dropped e r
def nG (T : Th) (e : Es) (q : Int) : Bool := (row T.foes q).any fun f => has e f 1
def pJ (T : Th) (e : Es) (q : Int) : Bool := (row T.foes q).any fun f => (ag T kA f).any fun s => used e s && decide (e.cd s q = 0)
def aW (T : Th) (e : Es) (q : Int) : Es := if lD T e q || nG T e q || pJ T e q then bJ e q else e
def eG (h : Int) (e : Es) (s : Int) : Es := if e.cb s h then e else
 let e1 : Es := { e with cb := aA e.cb s (aA (e.cb s) h true), up := aE e.up }
 if dropped e1 s then e1 else fM e1 h
def defendE (T : Th) (e : Es) (r : Int) : Es := (row T.beats r).foldl (eG (aj T r)) e
def fg (h : Int) (e : Es) (s : Int) : Es :=
 let e1 : Es := { e with cd := aA e.cd s (aA (e.cd s) h (lT (e.cd s h))), up := aE e.up }
 if decide (e1.cd s h = 0) && used e1 s then bJ e1 h else e1
def withE (T : Th) (e : Es) (r : Int) : Es := (row T.beats r).foldl (fg (aj T r)) e
def eW (r : Int) (e : Es) (p : Int) : Es := if e.cd r p = 0 then bJ e p else e
def ik (T : Th) (e : Es) (r : Int) : Es :=
 let e1 := (ao T (aj T r)).foldl (eW r) e
 if bT T r then
  let e2 := defendE T e1 r
  if e2.ob (aj T r) = 0 then tell e2 (aj T r) 3 else e2
 else e1
def dC (T : Th) (r : Int) (e : Es) (p : Int) : Es := if e.cb r p then e else dl T (fM e p) p
def fO (T : Th) (e : Es) (r : Int) : Es :=
 let e1 := (ao T (aj T r)).foldl (dC T r) e
 if bT T r then
  let e2 := withE T e1 r
  if ep e2 true (aj T r) then bJ (cu e2 true (aj T r)) (aj T r) else cu e2 true (aj T r)
 else e1
def dQ (T : Th) (e : Es) (r : Int) : Es := let e1 := du e false r; if e1.ms false r = 0 then tell e1 (aj T r) 1 else e1
def kQ (T : Th) (e : Es) (q : Int) : Es := (row T.foes q).foldl bJ ((iE T false q).foldl (dQ T) (tell e q 3))
def bX (T : Th) (e : Es) (r : Int) : Es := if e.rf false r then e else
 let e1 := refE e false r
 if ep e1 false (aj T r) then tell (cu e1 false (aj T r)) (aj T r) 2 else cu e1 false (aj T r)
def lY (T : Th) (e : Es) (p : Int) : Es := dl T (fM e p) p
def gp (T : Th) (F : List Int) (e : Es) (q : Int) : Es :=
 let e1 := (iE T false q).foldl (bX T) e
 aW T (if bI T F q then (ao T q).foldl (lY T) e1 else e1) q
def d7 (T : Th) (e : Es) (r : Int) : Es := let e1 := du e true r; if e1.ms true r = 0 then ik T e1 r else e1
def kO (T : Th) (e : Es) (q : Int) : Es := (iE T true q).foldl (d7 T) e
def dv (T : Th) (e : Es) (r : Int) : Es := if e.rf true r then e else fO T (refE e true r) r
def jv (T : Th) (e : Es) (q : Int) : Es := (iE T true q).foldl (dv T) e
def lG (T : Th) (F : List Int) (e : Es) (q t : Int) : Es := if t = 1 then kQ T e q else if t = 2 then gp T F e q else if t = 3 then kO T e q else jv T e q
def iQ (e : Es) : Es := { e with tk := e.tk + 1, up := aE e.up }
def gV (T : Th) (F : List Int) (e : Es) : Es := lG T F (iQ e) (e.td.getD e.tk (0, 0)).1 (e.td.getD e.tk (0, 0)).2
def D4 (l : List Int) : Bool := l.isEmpty
def nI (T : Th) (p : RuleM → Bool) (q : Int) : Bool := (ag T p q).any fun r => (az T r).isEmpty
def pH (T : Th) (F : List Int) (b : Bool) (q : Int) : Bool := nI T (kL b) q || (!b && decide (q ∈ F))
def aR (T : Th) (p : RuleM → Bool) (r : Int) : Bool := ((T.rules[r.toNat]?).map p).getD false
def ju (l : List Int) (P : Int → Bool) : Int := ((l.filter P).length : Nat)
def tW (T : Th) (p : Int) : List Int := ((List.range T.rules.length).filter fun a : Nat => decide (aj T (a : Int) ∈ row T.foes p)).map Int.ofNat
def dB (T : Th) (F : List Int) : Es where
 ms := fun b r => if aR T (kW b) r then ((az T r).length : Nat) else 0
 rf := fun _ _ => false
 op := fun b q => if pH T F b q then 0 else ((ag T (kL b) q).length : Nat)
 cd := fun s p => ju (ag T kT p) fun t => beatB T t s
 cb := fun _ _ => false
 ob := fun p => if (ag T kT p).isEmpty then 0 else ju (row T.foes p) (bI T F) + ((tW T p).length : Nat)
 mq := fun _ => 0
 td := []
 tk := 0
 up := 0
def iT (T : Th) (e : Es) (r : Nat) : Es := if bT T r && (az T r).isEmpty then defendE T e r else e
def bareE (T : Th) (k : Nat) (e : Es) : Es := (List.range k).foldl (iT T) e
def fV (T : Th) (F : List Int) (e : Es) (q : Nat) : Es := if !bI T F q then tell e q 2 else if e.op false q = 0 then tell e q 1 else e
def iF (T : Th) (e : Es) (q : Nat) : Es := aW T (dl T (if has e q 1 then tell e q 3 else e) q) q
def beginE (T : Th) (F : List Int) (n : Nat) (e : Es) : Es := (List.range n).foldl (iF T) ((List.range n).foldl (fV T F) e)
def oR (T : Th) (F : List Int) (n : Nat) : Es := { beginE T F n (bareE T T.rules.length (dB T F)) with up := 0 }
def bO (n : Nat) (f : Int → Int) : List Value := (List.range n).map fun i : Nat => .int .i64 (f i)
def cq (n : Nat) (f : Int → Bool) : List Value := (List.range n).map fun i : Nat => .bool (f i)
def eQ (n : Nat) (f : Int → Int) : List Value := (List.range n).map fun i : Nat => .int .u8 (f i)
section
variable {n i : Nat} (hi : i < n)
include hi
theorem aY {f : Int → Int} : (bO n f)[i]? = some (.int .i64 (f i)) := by unfold bO; rw [List.getElem?_map, List.getElem?_range hi]; rfl
theorem dy {f : Int → Bool} : (cq n f)[i]? = some (.bool (f i)) := by unfold cq; rw [List.getElem?_map, List.getElem?_range hi]; rfl
theorem jl {f : Int → Int} : (eQ n f)[i]? = some (.int .u8 (f i)) := by unfold eQ; rw [List.getElem?_map, List.getElem?_range hi]; rfl
theorem map_set {α : Type} {g : Int → α} {v : Value} {m : Int → α → Value} {x : α} (e : m (i : Int) x = v) : ((List.range n).map fun k : Nat => m (k : Int) (g k)).set i v = (List.range n).map fun k : Nat => m (k : Int) (aA g i x k) := by
 apply List.ext_getElem?
 intro k
 rw [List.getElem?_set, List.getElem?_map, List.getElem?_map]
 by_cases h : i = k
 ·subst h
  rw [if_pos rfl, List.getElem?_range hi]
  simp [hi, aL, e]
 rw [if_neg h]
 by_cases hk : k < n
 ·rw [List.getElem?_range hk]
  simp only [Option.map_some]
  rw [aS (by omega)]
 rw [List.getElem?_eq_none (by simpa using hk)]; rfl
theorem fC {f : Int → Int} {v : Int} : (bO n f).set i (.int .i64 v) = bO n (aA f i v) := map_set (m := fun _ x => .int .i64 x) hi rfl
theorem mD {f : Int → Bool} {v : Bool} : (cq n f).set i (.bool v) = cq n (aA f i v) := map_set (m := fun _ x => .bool x) hi rfl
theorem mG {f : Int → Int} {v : Int} : (eQ n f).set i (.int .u8 v) = eQ n (aA f i v) := map_set (m := fun _ x => .int .u8 x) hi rfl
end
def bR (L : List Int) (d : Int → Int) (b : Int → Bool) : List Value := L.flatMap fun p => [.int .i64 (d p), .bool (b p)]
theorem wh {L : List Int} {d : Int → Int} {b : Int → Bool} : (bR L d b).length = L.length * 2 := by
 unfold bR
 induction L with
 | nil => rfl
 | cons p L ih => rw [List.flatMap_cons, List.length_append, ih]; simp; omega
theorem fI {L : List Int} {d : Int → Int} {b : Int → Bool} {k : Nat} {p : Int} (h : L[k]? = some p) : (bR L d b)[k * 2]? = some (.int .i64 (d p)) ∧ (bR L d b)[k * 2 + 1]? = some (.bool (b p)) := by
 unfold bR
 induction L generalizing k with
 | nil => simp at h
 | cons q L ih =>
  rw [List.flatMap_cons]
  cases k with
  | zero => simp at h; subst h; exact ⟨rfl, rfl⟩
  | succ k =>
   have := ih (k := k) (by simpa using h)
   rw [List.getElem?_append_right (by simp; omega), List.getElem?_append_right (by simp; omega)]
   have e1 : (k + 1) * 2 - [Value.int .i64 (d q), .bool (b q)].length = k * 2 := by simp; omega
   have e2 : (k + 1) * 2 + 1 - [Value.int .i64 (d q), .bool (b q)].length = k * 2 + 1 := by simp; omega
   rw [e1, e2]
   exact this
theorem jW {L : List Int} {d d' : Int → Int} {b b' : Int → Bool} (h : ∀ p ∈ L, d p = d' p ∧ b p = b' p) : bR L d b = bR L d' b' := by
 unfold bR
 induction L with
 | nil => rfl
 | cons q L ih => rw [List.flatMap_cons, List.flatMap_cons, ih (fun p hp => h p (by simp [hp])), (h q (by simp)).1, (h q (by simp)).2]
theorem pa {L : List Int} {d : Int → Int} {b : Int → Bool} {k : Nat} {p : Int} {v : Int} (h : L[k]? = some p) (hn : L.Nodup) : (bR L d b).set (k * 2) (.int .i64 v) = bR L (aA d p v) b := by
 induction L generalizing k with
 | nil => simp at h
 | cons q L ih =>
  have hq := List.nodup_cons.1 hn
  cases k with
  | zero =>
   simp at h
   subst h
   have := jW (L := L) (d := d) (d' := aA d q v) (b := b) (b' := b) fun x hx => ⟨(aS fun (e : x = q) => hq.1 (e ▸ hx)).symm, rfl⟩
   unfold bR at *
   rw [List.flatMap_cons, List.flatMap_cons, ← this, aL]
   rfl
  | succ k =>
   have hk : L[k]? = some p := by simpa using h
   have Aa : q ≠ p := fun e => hq.1 (e ▸ List.mem_of_getElem? hk)
   have := ih hk hq.2
   unfold bR at *
   rw [List.flatMap_cons, List.flatMap_cons, ← this, aS Aa, show (k + 1) * 2 = k * 2 + 1 + 1 from by omega]
   rfl
theorem tz {L : List Int} {d : Int → Int} {b : Int → Bool} {k : Nat} {p : Int} {v : Bool} (h : L[k]? = some p) (hn : L.Nodup) : (bR L d b).set (k * 2 + 1) (.bool v) = bR L d (aA b p v) := by
 induction L generalizing k with
 | nil => simp at h
 | cons q L ih =>
  have hq := List.nodup_cons.1 hn
  cases k with
  | zero =>
   simp at h
   subst h
   have := jW (L := L) (d := d) (d' := d) (b := b) (b' := aA b q v) fun x hx => ⟨rfl, (aS fun (e : x = q) => hq.1 (e ▸ hx)).symm⟩
   unfold bR at *
   rw [List.flatMap_cons, List.flatMap_cons, ← this, aL]
   rfl
  | succ k =>
   have hk : L[k]? = some p := by simpa using h
   have Aa : q ≠ p := fun e => hq.1 (e ▸ List.mem_of_getElem? hk)
   have := ih hk hq.2
   unfold bR at *
   rw [List.flatMap_cons, List.flatMap_cons, ← this, aS Aa, show (k + 1) * 2 + 1 = k * 2 + 1 + 1 + 1 from by omega]
   rfl
def prs (l : List (Int × Int)) : List Value := l.flatMap fun p => [.int .i64 p.1, .int .i64 p.2]
theorem mK {l : List (Int × Int)} {p : Int × Int} : prs (l ++ [p]) = prs l ++ [.int .i64 p.1, .int .i64 p.2] := by unfold prs; simp
theorem rL {l : List (Int × Int)} : (prs l).length = l.length * 2 := by
 unfold prs
 induction l with
 | nil => rfl
 | cons p L ih => rw [List.flatMap_cons, List.length_append, ih]; simp; omega
theorem nV {l : List (Int × Int)} {k : Nat} {p : Int × Int} (h : l[k]? = some p) : (prs l)[k * 2]? = some (.int .i64 p.1) ∧ (prs l)[k * 2 + 1]? = some (.int .i64 p.2) := by
 unfold prs
 induction l generalizing k with
 | nil => simp at h
 | cons q L ih =>
  rw [List.flatMap_cons]
  cases k with
  | zero => simp at h; subst h; exact ⟨rfl, rfl⟩
  | succ k =>
   have := ih (k := k) (by simpa using h)
   rw [List.getElem?_append_right (by simp; omega), List.getElem?_append_right (by simp; omega)]
   have e1 : (k + 1) * 2 - [Value.int .i64 q.1, .int .i64 q.2].length = k * 2 := by simp; omega
   have e2 : (k + 1) * 2 + 1 - [Value.int .i64 q.1, .int .i64 q.2].length = k * 2 + 1 := by simp; omega
   rw [e1, e2]
   exact this
def LL (S : Nat → Prop) (L : Int → List Int) (n b : Nat) (w : World) : Prop :=
 S b ∧ ∃ vs, Fx b 26 vs w ∧ vs.length = n ∧ ∀ i : Nat, i < n → ∃ a c, vs[i]? = some (.slice a (L i).length c) ∧ At1 w a (aq (L i)) ∧ ∀ g o, a = some ⟨g, o, none⟩ → (L i) ≠ [] → S g
theorem LL.keep {S : Nat → Prop} {L : Int → List Int} {n b : Nat} {w w' : World} (h : LL S L n b w) (hk : ∀ k, S k → w'.heap[k]? = w.heap[k]?) : LL S L n b w' := by
 obtain ⟨hs, vs, hf, hl, h⟩ := h
 refine ⟨hs, vs, hf.keep (hk _ hs), hl, fun i hi => ?_⟩
 obtain ⟨a, c, h1, h2, h3⟩ := h i hi
 refine ⟨a, c, h1, fun j v hj => ?_, h3⟩
 obtain ⟨g, o, e, hc⟩ := h2 j v hj
 refine ⟨g, o, e, (World.cell?_of_block (hk g (h3 g o e fun e2 => ?_))).trans hc⟩
 rw [e2] at hj
 simp [aq] at hj
theorem LL.sub {S S' : Nat → Prop} {L : Int → List Int} {n b : Nat} {w : World} (h : LL S L n b w) (hs : ∀ k, S k → S' k) : LL S' L n b w := by
 obtain ⟨h0, vs, hf, hl, h⟩ := h
 refine ⟨hs _ h0, vs, hf, hl, fun i hi => ?_⟩
 obtain ⟨a, c, h1, h2, h3⟩ := h i hi
 exact ⟨a, c, h1, h2, fun g o e e2 => hs _ (h3 g o e e2)⟩
theorem LL.at {S : Nat → Prop} {L : Int → List Int} {n b : Nat} {w : World} (h : LL S L n b w) {i : Nat} (hi : i < n) : ∃ a c, w.cell? ⟨b, i, none⟩ = some (.slice a (L i).length c) ∧ At1 w a (aq (L i)) := by
 obtain ⟨_, vs, hf, hl, h⟩ := h
 obtain ⟨a, c, h1, h2, _⟩ := h i hi
 exact ⟨a, c, hf.get h1, h2⟩
structure Ad where
 (K : Nat)
 (fa ra ba : Option Addr)
 (fc rc bc : Nat)
 (rl tm rv fm : Nat)
 (us ms rr op : Bool → Nat)
 (cl ob mq : Nat)
 (cr : Nat → Nat)
structure Ro (N : Nat) (S : Nat → Prop) (A : Ad) (T : Th) (F : List Int) (n : Nat) (w : World) : Prop where
 ta : TA N w T A.fa A.fc A.ra A.rc A.ba A.bc
 n0 : ∀ g, g < N → S g
 lr : LL S (fun q => ag T kA q) n A.rl w
 lt : LL S (fun q => ag T kT q) n A.tm w
 lv : LL S (fun q => ao T q) n A.rv w
 ls : S A.fm
 lf : Fx A.fm 4 (cq n (bI T F)) w
 lu : ∀ b, LL S (fun q => iE T b q) n (A.us b) w
 lc : S A.cl
 lx : Fx A.cl 229 ((List.range T.rules.length).map fun s : Nat => sl (A.cr s) (ao T (aj T s)).length) w
theorem Ro.keep {N : Nat} {S : Nat → Prop} {A : Ad} {T : Th} {F : List Int} {n : Nat} {w w' : World} (h : Ro N S A T F n w) (hk : ∀ k, S k → w'.heap[k]? = w.heap[k]?) : Ro N S A T F n w' :=
 ⟨TR.keep (fun g hg => hk g (h.n0 g hg)) h.ta, h.n0, h.lr.keep hk, h.lt.keep hk, h.lv.keep hk, h.ls, h.lf.keep (hk _ h.ls), fun b => (h.lu b).keep hk, h.lc, h.lx.keep (hk _ h.lc)⟩
theorem Ro.sub {N : Nat} {S S' : Nat → Prop} {A : Ad} {T : Th} {F : List Int} {n : Nat} {w : World} (h : Ro N S A T F n w) (hs : ∀ k, S k → S' k) : Ro N S' A T F n w :=
 ⟨h.ta, fun g hg => hs g (h.n0 g hg), h.lr.sub hs, h.lt.sub hs, h.lv.sub hs, hs _ h.ls, h.lf, fun b => (h.lu b).sub hs, hs _ h.lc, h.lx⟩
structure Di (A : Ad) (R : Nat) : Prop where
 mm : ∀ b c, A.ms b = A.ms c → b = c
 oo : ∀ b c, A.op b = A.op c → b = c
 rr : ∀ b c, A.rr b = A.rr c → b = c
 mo : ∀ b c, A.ms b ≠ A.op c
 mb : ∀ b, A.ms b ≠ A.ob
 ob : ∀ b, A.op b ≠ A.ob
 cc : ∀ s t, s < R → t < R → A.cr s = A.cr t → s = t
abbrev pW (A : Ad) (T : Th) (n R : Nat) (tv : Value) (tk up : Int) : List Value := [.int .i64 T.lits, .slice A.fa T.foes.length A.fc, .slice A.ra T.rules.length A.rc, .slice A.ba T.beats.length A.bc, sl A.rl n, sl A.tm n, sl A.rv n, sl A.fm n, sl (A.us false) n, sl (A.ms false) R, sl (A.rr false) R, sl (A.op false) n, sl (A.us true) n, sl (A.ms true) R, sl (A.rr true) R, sl (A.op true) n, sl A.cl R, sl A.ob n, sl A.mq n, tv, .int .i64 tk, .int .i64 up]
structure Tok (n : Nat) (e : Es) : Prop where
 inn : ∀ x ∈ e.td, 0 ≤ x.1 ∧ x.1 < (n : Int) ∧ aw x.2 ∧ has e x.1 x.2 = true
 nd : e.td.Nodup
 by_ : ∀ q : Int, dm (e.mq q)
 tk : e.tk ≤ e.td.length
def uW (x : Int × Int) : Nat := x.1.toNat * 4 + (x.2.toNat - 1)
theorem gM : ∀ {N : Nat} {l : List Nat}, l.Nodup → (∀ x ∈ l, x < N) → l.length ≤ N
 | 0, l, _, h => by
  cases l with
  | nil => simp
  | cons x l => exact absurd (h x (by simp)) (by omega)
 | N + 1, l, hn, h => by
  by_cases hm : N ∈ l
  ·have h1 := gM (N := N) (hn.erase N) fun x hx => by
    have h2 := (hn.mem_erase_iff).1 hx
    have := h x h2.2
    have := h2.1
    omega
   rw [List.length_erase_of_mem hm] at h1
   omega
  have := gM (N := N) hn fun x hx => by
   have := h x hx
   have : x ≠ N := fun e => hm (e ▸ hx)
   omega
  omega
theorem i6 {α : Type} {f : α → Nat} : ∀ {l : List α}, l.Nodup → (∀ x ∈ l, ∀ y ∈ l, f x = f y → x = y) → (l.map f).Nodup
 | [], _, _ => List.nodup_nil
 | a :: l, h, hi => by
  have hc := List.nodup_cons.1 h
  rw [List.map_cons, List.nodup_cons]
  refine ⟨fun hm => ?_, i6 hc.2 fun x hx y hy => hi x (by simp [hx]) y (by simp [hy])⟩
  obtain ⟨y, hy, e⟩ := List.mem_map.1 hm
  have := hi y (by simp [hy]) a (by simp) e
  exact hc.1 (this ▸ hy)
theorem Tok.len {n : Nat} {e : Es} (h : Tok n e) : e.td.length ≤ n * 4 := by
 have h2 : (e.td.map uW).Nodup := i6 h.nd fun x hx y hy hxy => by
  obtain ⟨x0, x1, x2, -⟩ := h.inn x hx
  obtain ⟨y0, y1, y2, -⟩ := h.inn y hy
  unfold uW at hxy
  have a1 : x.1 = y.1 := by rcases x2 with e1 | e1 | e1 | e1 <;> rcases y2 with e2 | e2 | e2 | e2 <;> omega
  have a2 : x.2 = y.2 := by rcases x2 with e1 | e1 | e1 | e1 <;> rcases y2 with e2 | e2 | e2 | e2 <;> omega
  exact Prod.ext a1 a2
 have := gM (N := n * 4) h2 fun k hk => by
  obtain ⟨x, hx, rfl⟩ := List.mem_map.1 hk
  obtain ⟨x0, x1, x2, -⟩ := h.inn x hx
  unfold uW
  rcases x2 with e1 | e1 | e1 | e1 <;> omega
 simpa using this
theorem Tok.tell {n : Nat} {e : Es} (h : Tok n e) {q t : Int} (h0 : 0 ≤ q) (h1 : q < (n : Int)) (ht : aw t) : Tok n (tell e q t) := by
 unfold Fa.tell
 cases hh : has e q t with
 | true => rw [if_pos rfl]; exact h
 | false =>
  rw [if_neg (by decide)]
  have Aa := fun u (hu : aw u) => jT (h.by_ q) ht hu
  have Ab : ∀ p u, aw u → has e p u = true → hb (aA e.mq q (dt (e.mq q) t) p) u = true := fun p u hu hp => by
   by_cases e2 : p = q
   ·subst e2; rw [aL, (Aa u hu).1]; unfold has at hp; rw [hp]; rfl
   rw [aS e2]; exact hp
  refine ⟨fun x hx => ?_, ?_, fun p => ?_, by simp; have := h.tk; omega⟩
  ·rcases List.mem_append.1 hx with hx | hx
   ·obtain ⟨a, b, c, d⟩ := h.inn x hx
    exact ⟨a, b, c, Ab _ _ c d⟩
   simp at hx
   subst hx
   refine ⟨h0, h1, ht, ?_⟩
   show hb (aA e.mq q (dt (e.mq q) t) q) t = true
   rw [aL, (Aa t ht).1]; simp
  ·rw [List.nodup_append]
   refine ⟨h.nd, by simp, fun x hx y hy e2 => ?_⟩
   simp at hy
   subst hy
   subst e2
   rw [(h.inn _ hx).2.2.2] at hh
   cases hh
  show dm (aA e.mq q (dt (e.mq q) t) p)
  by_cases e2 : p = q
  ·subst e2; rw [aL]; exact (Aa t ht).2.1
  rw [aS e2]; exact h.by_ p
structure En (N : Nat) (S : Nat → Prop) (A : Ad) (T : Th) (F : List Int) (n : Nat) (e : Es) (tv : Value) (w : World) : Prop where
 pf : Pf T F n
 ro : Ro N S A T F n w
 di : Di A T.rules.length
 tok : Tok n e
 bx : Fx A.K 181 (pW A T n T.rules.length tv e.tk e.up) w
 ms : ∀ b, Fx (A.ms b) 3 (bO T.rules.length (e.ms b)) w
 rf : ∀ b, Fx (A.rr b) 4 (cq T.rules.length (e.rf b)) w
 op : ∀ b, Fx (A.op b) 3 (bO n (e.op b)) w
 cr : ∀ s : Nat, s < T.rules.length → Fx (A.cr s) 231 (bR (ao T (aj T s)) (e.cd s) (e.cb s)) w
 ob : Fx A.ob 3 (bO n e.ob) w
 mq : Fx A.mq 67 (eQ n e.mq) w
 td : w.ownsRow 0 85 2 tv e.td.length (prs e.td)
 kp : ∀ k, S k → k < w.heap.size ∧ k ≠ A.K ∧ (∀ b, k ≠ A.ms b ∧ k ≠ A.rr b ∧ k ≠ A.op b) ∧ (∀ s, s < T.rules.length → k ≠ A.cr s) ∧ k ≠ A.ob ∧ k ≠ A.mq ∧ tv.ownBlock ≠ some k
theorem de {w : World} {q e e2 : Nat} {v : Value} {n k : Nat} {xs : List Value} {cs : Array Value} (h : w.ownsRow 0 e k v n xs) (hq : w.heap[q]? = some (.cells cs e2 (0, 0))) (hne : e ≠ e2) : v.ownBlock ≠ some q := by
 intro hg
 rcases h.2 with ⟨h1, _⟩ | ⟨g', _, Aa, h1, _, h3, _⟩
 ·rw [h1] at hg; cases hg
 rw [h1] at hg; cases hg; rw [hq] at h3; cases h3; exact hne rfl
section
variable {N : Nat} {S : Nat → Prop} {A : Ad} {T : Th} {F : List Int} {n : Nat} {e : Es} {tv : Value} {w w' : World}
theorem En.go (h : En N S A T F n e tv w) (hb : Below w.heap.size w w') : En N S A T F n e tv w' :=
 ⟨h.pf, h.ro.keep fun k hk => hb.block k (h.kp k hk).1, h.di, h.tok, h.bx.keep (hb.block _ h.bx.lt), fun b => (h.ms b).keep (hb.block _ (h.ms b).lt), fun b => (h.rf b).keep (hb.block _ (h.rf b).lt), fun b => (h.op b).keep (hb.block _ (h.op b).lt), fun s hs => (h.cr s hs).keep (hb.block _ (h.cr s hs).lt), h.ob.keep (hb.block _ h.ob.lt), h.mq.keep (hb.block _ h.mq.lt), owns_keep h.td fun g hg => hb.block g (ax h.td hg), fun k hk => ⟨Nat.lt_of_lt_of_le (h.kp k hk).1 hb.size, (h.kp k hk).2⟩⟩
theorem En.drewN (h : En N S A T F n e tv w) (q : Nat) : En N S A T F n e tv (w.drewN q) := h.go (ah w q)
theorem En.more (h : En N S A T F n e tv w) (o : Obj) : En N (fun k => S k ∨ k = w.heap.size) A T F n e tv (w.alloc o) := by
 have hc := h.go (ae w o)
 refine { hc with ro := hc.ro.sub fun k hk => .inl hk, kp := fun k hk => ?_ }
 rcases hk with hk | rfl
 ·exact hc.kp k hk
 refine ⟨by simp, fun e => by have := h.bx.lt; omega, fun b => ⟨fun e => by have := (h.ms b).lt; omega, fun e => by have := (h.rf b).lt; omega, fun e => by have := (h.op b).lt; omega⟩, fun s hs e => by have := (h.cr s hs).lt; omega, fun e => by have := h.ob.lt; omega, fun e => by have := h.mq.lt; omega, fun e => by have := ax h.td e; omega⟩
theorem En.sub (h : En N S A T F n e tv w) {S' : Nat → Prop} (h1 : ∀ k, S' k → S k) (h2 : Ro N S' A T F n w) : En N S' A T F n e tv w := { h with ro := h2, kp := fun k hk => h.kp k (h1 k hk) }
theorem En.setMs (h : En N S A T F n e tv w) (c : Bool) {i : Nat} (hi : i < T.rules.length) (v : Int) : En N S A T F n { e with ms := dI e.ms c (aA (e.ms c) i v) } tv (w.setCell ⟨A.ms c, i, none⟩ (.int .i64 v)) ∧ Fr (fun k => ¬ S k) w (w.setCell ⟨A.ms c, i, none⟩ (.int .i64 v)) :=
 ⟨⟨h.pf, h.ro.keep fun k hk => other_set (fun x => ((h.kp k hk).2.2.1 c).1 x), h.di, ⟨h.tok.inn, h.tok.nd, h.tok.by_, h.tok.tk⟩, (h.bx).keep (other_set (an h.bx (h.ms c) (by decide))), fun b => if hb : b = c then (by subst hb; have := (h.ms b).set i (.int .i64 v); rw [fC hi] at this; show Fx _ _ (bO _ (dI e.ms b _ b)) _; rw [dx]; exact this) else (by show Fx _ _ (bO _ (dI e.ms c _ b)) _; rw [eK hb]; exact (h.ms b).keep (other_set fun x => hb (h.di.mm _ _ x))), fun b => (h.rf b).keep (other_set (an (h.rf b) (h.ms c) (by decide))), fun b => (h.op b).keep (other_set (Ne.symm (h.di.mo c b))), fun s hs => (h.cr s hs).keep (other_set (an (h.cr s hs) (h.ms c) (by decide))), (h.ob).keep (other_set (Ne.symm (h.di.mb c))), (h.mq).keep (other_set (an h.mq (h.ms c) (by decide))), owns_keep h.td fun g hg => other_set fun x => de h.td (h.ms c) (by decide) (x ▸ hg), fun k hk => ⟨by simpa using (h.kp k hk).1, (h.kp k hk).2⟩⟩, Fr.setCell _ _ fun hk => (fun k (hk : S k) x => ((h.kp k hk).2.2.1 c).1 x) _ hk rfl⟩
theorem En.setRf (h : En N S A T F n e tv w) (c : Bool) {i : Nat} (hi : i < T.rules.length) (v : Bool) : En N S A T F n { e with rf := dI e.rf c (aA (e.rf c) i v) } tv (w.setCell ⟨A.rr c, i, none⟩ (.bool v)) ∧ Fr (fun k => ¬ S k) w (w.setCell ⟨A.rr c, i, none⟩ (.bool v)) :=
 ⟨⟨h.pf, h.ro.keep fun k hk => other_set (fun x => ((h.kp k hk).2.2.1 c).2.1 x), h.di, ⟨h.tok.inn, h.tok.nd, h.tok.by_, h.tok.tk⟩, (h.bx).keep (other_set (an h.bx (h.rf c) (by decide))), fun b => (h.ms b).keep (other_set (an (h.ms b) (h.rf c) (by decide))), fun b => if hb : b = c then (by subst hb; have := (h.rf b).set i (.bool v); rw [mD hi] at this; show Fx _ _ (cq _ (dI e.rf b _ b)) _; rw [dx]; exact this) else (by show Fx _ _ (cq _ (dI e.rf c _ b)) _; rw [eK hb]; exact (h.rf b).keep (other_set fun x => hb (h.di.rr _ _ x))), fun b => (h.op b).keep (other_set (an (h.op b) (h.rf c) (by decide))), fun s hs => (h.cr s hs).keep (other_set (an (h.cr s hs) (h.rf c) (by decide))), (h.ob).keep (other_set (an h.ob (h.rf c) (by decide))), (h.mq).keep (other_set (an h.mq (h.rf c) (by decide))), owns_keep h.td fun g hg => other_set fun x => de h.td (h.rf c) (by decide) (x ▸ hg), fun k hk => ⟨by simpa using (h.kp k hk).1, (h.kp k hk).2⟩⟩, Fr.setCell _ _ fun hk => (fun k (hk : S k) x => ((h.kp k hk).2.2.1 c).2.1 x) _ hk rfl⟩
theorem En.setOp (h : En N S A T F n e tv w) (c : Bool) {i : Nat} (hi : i < n) (v : Int) : En N S A T F n { e with op := dI e.op c (aA (e.op c) i v) } tv (w.setCell ⟨A.op c, i, none⟩ (.int .i64 v)) ∧ Fr (fun k => ¬ S k) w (w.setCell ⟨A.op c, i, none⟩ (.int .i64 v)) :=
 ⟨⟨h.pf, h.ro.keep fun k hk => other_set (fun x => ((h.kp k hk).2.2.1 c).2.2 x), h.di, ⟨h.tok.inn, h.tok.nd, h.tok.by_, h.tok.tk⟩, (h.bx).keep (other_set (an h.bx (h.op c) (by decide))), fun b => (h.ms b).keep (other_set (h.di.mo b c)), fun b => (h.rf b).keep (other_set (an (h.rf b) (h.op c) (by decide))), fun b => if hb : b = c then (by subst hb; have := (h.op b).set i (.int .i64 v); rw [fC hi] at this; show Fx _ _ (bO _ (dI e.op b _ b)) _; rw [dx]; exact this) else (by show Fx _ _ (bO _ (dI e.op c _ b)) _; rw [eK hb]; exact (h.op b).keep (other_set fun x => hb (h.di.oo _ _ x))), fun s hs => (h.cr s hs).keep (other_set (an (h.cr s hs) (h.op c) (by decide))), (h.ob).keep (other_set (Ne.symm (h.di.ob c))), (h.mq).keep (other_set (an h.mq (h.op c) (by decide))), owns_keep h.td fun g hg => other_set fun x => de h.td (h.op c) (by decide) (x ▸ hg), fun k hk => ⟨by simpa using (h.kp k hk).1, (h.kp k hk).2⟩⟩, Fr.setCell _ _ fun hk => (fun k (hk : S k) x => ((h.kp k hk).2.2.1 c).2.2 x) _ hk rfl⟩
theorem En.setOb (h : En N S A T F n e tv w) {i : Nat} (hi : i < n) (v : Int) : En N S A T F n { e with ob := aA e.ob i v } tv (w.setCell ⟨A.ob, i, none⟩ (.int .i64 v)) ∧ Fr (fun k => ¬ S k) w (w.setCell ⟨A.ob, i, none⟩ (.int .i64 v)) :=
 ⟨⟨h.pf, h.ro.keep fun k hk => other_set (fun x => (h.kp k hk).2.2.2.2.1 x), h.di, ⟨h.tok.inn, h.tok.nd, h.tok.by_, h.tok.tk⟩, (h.bx).keep (other_set (an h.bx h.ob (by decide))), fun b => (h.ms b).keep (other_set (h.di.mb b)), fun b => (h.rf b).keep (other_set (an (h.rf b) h.ob (by decide))), fun b => (h.op b).keep (other_set (h.di.ob b)), fun s hs => (h.cr s hs).keep (other_set (an (h.cr s hs) h.ob (by decide))), by have := h.ob.set i (.int .i64 v); rw [fC hi] at this; exact this, (h.mq).keep (other_set (an h.mq h.ob (by decide))), owns_keep h.td fun g hg => other_set fun x => de h.td h.ob (by decide) (x ▸ hg), fun k hk => ⟨by simpa using (h.kp k hk).1, (h.kp k hk).2⟩⟩, Fr.setCell _ _ fun hk => (fun k (hk : S k) x => (h.kp k hk).2.2.2.2.1 x) _ hk rfl⟩
theorem En.setCd (h : En N S A T F n e tv w) {z k : Nat} (hz : z < T.rules.length) {p : Int} (hp : (ao T (aj T z))[k]? = some p) (hnd : (ao T (aj T z)).Nodup) (v : Int) : En N S A T F n { e with cd := aA e.cd z (aA (e.cd z) p v) } tv (w.setCell ⟨A.cr z, k * 2, none⟩ (.int .i64 v)) ∧ Fr (fun k => ¬ S k) w (w.setCell ⟨A.cr z, k * 2, none⟩ (.int .i64 v)) :=
 ⟨⟨h.pf, h.ro.keep fun k hk => other_set (fun x => (h.kp k hk).2.2.2.1 z hz x), h.di, ⟨h.tok.inn, h.tok.nd, h.tok.by_, h.tok.tk⟩, (h.bx).keep (other_set (an h.bx (h.cr z hz) (by decide))), fun b => (h.ms b).keep (other_set (an (h.ms b) (h.cr z hz) (by decide))), fun b => (h.rf b).keep (other_set (an (h.rf b) (h.cr z hz) (by decide))), fun b => (h.op b).keep (other_set (an (h.op b) (h.cr z hz) (by decide))), fun s hs => if hb : s = z then (by subst hb; have := (h.cr s hs).set (k * 2) (.int .i64 v); rw [pa hp hnd] at this; show Fx _ _ (bR _ (aA e.cd (s : Int) _ (s : Int)) _) _; rw [aL]; exact this) else (by show Fx _ _ (bR _ (aA e.cd (z : Int) _ (s : Int)) _) _; rw [aS (by omega)]; exact (h.cr s hs).keep (other_set fun x => hb (h.di.cc _ _ hs hz x))), (h.ob).keep (other_set (an h.ob (h.cr z hz) (by decide))), (h.mq).keep (other_set (an h.mq (h.cr z hz) (by decide))), owns_keep h.td fun g hg => other_set fun x => de h.td (h.cr z hz) (by decide) (x ▸ hg), fun k hk => ⟨by simpa using (h.kp k hk).1, (h.kp k hk).2⟩⟩, Fr.setCell _ _ fun hk => (fun k (hk : S k) x => (h.kp k hk).2.2.2.1 z hz x) _ hk rfl⟩
theorem En.setCb (h : En N S A T F n e tv w) {z k : Nat} (hz : z < T.rules.length) {p : Int} (hp : (ao T (aj T z))[k]? = some p) (hnd : (ao T (aj T z)).Nodup) (v : Bool) : En N S A T F n { e with cb := aA e.cb z (aA (e.cb z) p v) } tv (w.setCell ⟨A.cr z, (k * 2 + 1), none⟩ (.bool v)) ∧ Fr (fun k => ¬ S k) w (w.setCell ⟨A.cr z, (k * 2 + 1), none⟩ (.bool v)) :=
 ⟨⟨h.pf, h.ro.keep fun k hk => other_set (fun x => (h.kp k hk).2.2.2.1 z hz x), h.di, ⟨h.tok.inn, h.tok.nd, h.tok.by_, h.tok.tk⟩, (h.bx).keep (other_set (an h.bx (h.cr z hz) (by decide))), fun b => (h.ms b).keep (other_set (an (h.ms b) (h.cr z hz) (by decide))), fun b => (h.rf b).keep (other_set (an (h.rf b) (h.cr z hz) (by decide))), fun b => (h.op b).keep (other_set (an (h.op b) (h.cr z hz) (by decide))), fun s hs => if hb : s = z then (by subst hb; have := (h.cr s hs).set (k * 2 + 1) (.bool v); rw [tz hp hnd] at this; show Fx _ _ (bR _ _ (aA e.cb (s : Int) _ (s : Int))) _; rw [aL]; exact this) else (by show Fx _ _ (bR _ _ (aA e.cb (z : Int) _ (s : Int))) _; rw [aS (by omega)]; exact (h.cr s hs).keep (other_set fun x => hb (h.di.cc _ _ hs hz x))), (h.ob).keep (other_set (an h.ob (h.cr z hz) (by decide))), (h.mq).keep (other_set (an h.mq (h.cr z hz) (by decide))), owns_keep h.td fun g hg => other_set fun x => de h.td (h.cr z hz) (by decide) (x ▸ hg), fun k hk => ⟨by simpa using (h.kp k hk).1, (h.kp k hk).2⟩⟩, Fr.setCell _ _ fun hk => (fun k (hk : S k) x => (h.kp k hk).2.2.2.1 z hz x) _ hk rfl⟩
theorem En.setUp (h : En N S A T F n e tv w) (v : Int) : En N S A T F n { e with up := v } tv (w.setCell ⟨A.K, 21, none⟩ (.int .i64 v)) ∧ Fr (fun k => ¬ S k) w (w.setCell ⟨A.K, 21, none⟩ (.int .i64 v)) :=
 ⟨⟨h.pf, h.ro.keep fun k hk => other_set (fun x => (h.kp k hk).2.1 x), h.di, ⟨h.tok.inn, h.tok.nd, h.tok.by_, h.tok.tk⟩, h.bx.set 21 _, fun b => (h.ms b).keep (other_set (an (h.ms b) h.bx (by decide))), fun b => (h.rf b).keep (other_set (an (h.rf b) h.bx (by decide))), fun b => (h.op b).keep (other_set (an (h.op b) h.bx (by decide))), fun s hs => (h.cr s hs).keep (other_set (an (h.cr s hs) h.bx (by decide))), (h.ob).keep (other_set (an h.ob h.bx (by decide))), (h.mq).keep (other_set (an h.mq h.bx (by decide))), owns_keep h.td fun g hg => other_set fun x => de h.td h.bx (by decide) (x ▸ hg), fun k hk => ⟨by simpa using (h.kp k hk).1, (h.kp k hk).2⟩⟩, Fr.setCell _ _ fun hk => (fun k (hk : S k) x => (h.kp k hk).2.1 x) _ hk rfl⟩
theorem En.setTk (h : En N S A T F n e tv w) {k : Nat} (hk2 : k ≤ e.td.length) : En N S A T F n { e with tk := k } tv (w.setCell ⟨A.K, 20, none⟩ (.int .i64 k)) ∧ Fr (fun k => ¬ S k) w (w.setCell ⟨A.K, 20, none⟩ (.int .i64 k)) :=
 ⟨⟨h.pf, h.ro.keep fun k hk => other_set (fun x => (h.kp k hk).2.1 x), h.di, ⟨h.tok.inn, h.tok.nd, h.tok.by_, hk2⟩, h.bx.set 20 _, fun b => (h.ms b).keep (other_set (an (h.ms b) h.bx (by decide))), fun b => (h.rf b).keep (other_set (an (h.rf b) h.bx (by decide))), fun b => (h.op b).keep (other_set (an (h.op b) h.bx (by decide))), fun s hs => (h.cr s hs).keep (other_set (an (h.cr s hs) h.bx (by decide))), (h.ob).keep (other_set (an h.ob h.bx (by decide))), (h.mq).keep (other_set (an h.mq h.bx (by decide))), owns_keep h.td fun g hg => other_set fun x => de h.td h.bx (by decide) (x ▸ hg), fun k hk => ⟨by simpa using (h.kp k hk).1, (h.kp k hk).2⟩⟩, Fr.setCell _ _ fun hk => (fun k (hk : S k) x => (h.kp k hk).2.1 x) _ hk rfl⟩
theorem En.setMk (h : En N S A T F n e tv w) {i : Nat} (hi : i < n) {t : Int} (ht : aw t) (hn : has e i t = false) {w1 : World} {u1 : Int} {g c : Nat} (hw1 : w1.ownsRow 0 85 2 (.slice (some ⟨g, 0, none⟩) (e.td.length + 1) c) (e.td.length + 1) (prs (e.td ++ [((i : Int), t)])))
    (hold : ∀ k, k < w.heap.size → tv.ownBlock ≠ some k → w1.heap[k]? = ((w.setCell ⟨A.mq, i, none⟩ (.int .u8 (dt (e.mq i) t))).setCell ⟨A.K, 21, none⟩ (.int .i64 u1)).heap[k]?) (hsz : w.heap.size ≤ w1.heap.size) (hg : tv.ownBlock = some g ∨ w.heap.size ≤ g) (hos : w1.os = w.os ∧ w1.tape = w.tape ∧ w1.output = w.output) (up : Int) :
    En N S A T F n { e with mq := aA e.mq i (dt (e.mq i) t), td := e.td ++ [((i : Int), t)], up := up } (.slice (some ⟨g, 0, none⟩) (e.td.length + 1) c) ((w1.setCell ⟨A.K, 19, none⟩ (.slice (some ⟨g, 0, none⟩) (e.td.length + 1) c)).setCell ⟨A.K, 21, none⟩ (.int .i64 up)) ∧ Fr (fun k => ¬ S k) w ((w1.setCell ⟨A.K, 19, none⟩ (.slice (some ⟨g, 0, none⟩) (e.td.length + 1) c)).setCell ⟨A.K, 21, none⟩ (.int .i64 up)) := by
 have Ac : ∀ k, k < w.heap.size → tv.ownBlock ≠ some k → k ≠ g := fun k hk hn e2 => by
  subst e2
  rcases hg with hg | hg
  ·exact hn hg
  omega
 have key : ∀ k, k < w.heap.size → tv.ownBlock ≠ some k → k ≠ A.mq → k ≠ A.K → ((w1.setCell ⟨A.K, 19, none⟩ (.slice (some ⟨g, 0, none⟩) (e.td.length + 1) c)).setCell ⟨A.K, 21, none⟩ (.int .i64 up)).heap[k]? = w.heap[k]? := fun k hk h1 h2 h3 => by
  rw [other_set h3, other_set h3, hold k hk h1, other_set h3, other_set h2]
 have tn : ∀ {g2 t2 : Nat} {xs : List Value}, Fx g2 t2 xs w → 85 ≠ t2 → tv.ownBlock ≠ some g2 := fun hf hne => de h.td hf hne
 have Ab : Fx A.K 181 (pW A T n T.rules.length tv e.tk u1) w1 := ((h.bx.keep (other_set (an h.bx h.mq (by decide)))).set 21 _).keep (hold _ h.bx.lt (tn h.bx (by decide)))
 have Ad : Fx A.mq 67 (eQ n (aA e.mq i (dt (e.mq i) t))) w1 := by
  have := h.mq.set i (.int .u8 (dt (e.mq i) t))
  rw [mG hi] at this
  exact (this.keep (other_set (an h.mq h.bx (by decide)))).keep (hold _ h.mq.lt (tn h.mq (by decide)))
 have hS : ∀ k, S k → ((w1.setCell ⟨A.K, 19, none⟩ (.slice (some ⟨g, 0, none⟩) (e.td.length + 1) c)).setCell ⟨A.K, 21, none⟩ (.int .i64 up)).heap[k]? = w.heap[k]? := fun k hk => by
  obtain ⟨a1, a2, a3, a4, a5, a6, a7⟩ := h.kp k hk
  exact key k a1 a7 a6 a2
 refine ⟨⟨h.pf, h.ro.keep hS, h.di, ?_, (Ab.set 19 _).set 21 _, fun b => (h.ms b).keep (key _ (h.ms b).lt (tn (h.ms b) (by decide)) (an (h.ms b) h.mq (by decide)) (an (h.ms b) h.bx (by decide))), fun b => (h.rf b).keep (key _ (h.rf b).lt (tn (h.rf b) (by decide)) (an (h.rf b) h.mq (by decide)) (an (h.rf b) h.bx (by decide))), fun b => (h.op b).keep (key _ (h.op b).lt (tn (h.op b) (by decide)) (an (h.op b) h.mq (by decide)) (an (h.op b) h.bx (by decide))), fun s hs => (h.cr s hs).keep (key _ (h.cr s hs).lt (tn (h.cr s hs) (by decide)) (an (h.cr s hs) h.mq (by decide)) (an (h.cr s hs) h.bx (by decide))), h.ob.keep (key _ h.ob.lt (tn h.ob (by decide)) (an h.ob h.mq (by decide)) (an h.ob h.bx (by decide))), (Ad.keep (other_set (an h.mq h.bx (by decide)))).keep (other_set (an h.mq h.bx (by decide))), ?_, fun k hk => ?_⟩, ?_⟩
 ·have := h.tok.tell (q := i) (t := t) (by omega) (by omega) ht
  unfold Fa.tell at this
  rw [if_neg (by rw [hn]; decide)] at this
  exact ⟨this.inn, this.nd, this.by_, this.tk⟩
 ·rw [List.length_append]
  have Aa : g ≠ A.K := fun e2 => de hw1 Ab (by decide) (by rw [← e2]; rfl)
  refine owns_keep hw1 fun k hk => ?_
  have : k = g := by simpa [Value.ownBlock] using hk.symm
  subst this
  rw [other_set Aa, other_set Aa]
 ·obtain ⟨a1, a2, a3, a4, a5, a6, a7⟩ := h.kp k hk
  refine ⟨by simp; omega, a2, a3, a4, a5, a6, fun e2 => ?_⟩
  have : k = g := by simpa [Value.ownBlock] using e2.symm
  exact Ac k a1 a7 this
 refine ⟨hos.1, hos.2.1, hos.2.2, by simpa using hsz, fun k hk hn => hS k (Classical.not_not.1 hn)⟩
end
set_option maxRecDepth 100000
set_option maxHeartbeats 3200000
section
variable {w : World} {K g i : Nat} {x : Value} {u : Int}
theorem fE {v : Int} (hc : w.cell? ⟨g, i, none⟩ = some x) (hf : w.frozen? ⟨g, i, none⟩ = false) (hu : (w.setCell ⟨g, i, none⟩ (.int .i64 v)).cell? ⟨K, 21, none⟩ = some (.int .i64 u)) (hfu : (w.setCell ⟨g, i, none⟩ (.int .i64 v)).frozen? ⟨K, 21, none⟩ = false) :
    Calls Tryz.prog 223 #[aa K, .pointer (some ⟨g, i, none⟩), .int .i64 v] w fun e w' => e = .returned (.tuple #[]) ∧ w' = (w.setCell ⟨g, i, none⟩ (.int .i64 v)).setCell ⟨K, 21, none⟩ (.int .i64 (aE u)) := by
 obtain ⟨u', hu'⟩ : ∃ u', IntKind.i64.wrap (u + 1) = u' := ⟨_, rfl⟩
 have HU : Hid (aE u = u') := hide hu'
 go_enter Tryz.func223, Tryz.ntmps223
 go_wp2_with fail
 go_end0
 exact ⟨rfl, by rw [HU.out]⟩
theorem mQ {v : Bool} (hc : w.cell? ⟨g, i, none⟩ = some x) (hf : w.frozen? ⟨g, i, none⟩ = false) (hu : (w.setCell ⟨g, i, none⟩ (.bool v)).cell? ⟨K, 21, none⟩ = some (.int .i64 u)) (hfu : (w.setCell ⟨g, i, none⟩ (.bool v)).frozen? ⟨K, 21, none⟩ = false) :
    Calls Tryz.prog 210 #[aa K, .pointer (some ⟨g, i, none⟩), .bool v] w fun e w' => e = .returned (.tuple #[]) ∧ w' = (w.setCell ⟨g, i, none⟩ (.bool v)).setCell ⟨K, 21, none⟩ (.int .i64 (aE u)) := by
 obtain ⟨u', hu'⟩ : ∃ u', IntKind.i64.wrap (u + 1) = u' := ⟨_, rfl⟩
 have HU : Hid (aE u = u') := hide hu'
 go_enter Tryz.func210, Tryz.ntmps210
 go_wp2_with fail
 go_end0
 exact ⟨rfl, by rw [HU.out]⟩
theorem vf {v : Int} (hc : w.cell? ⟨g, i, none⟩ = some x) (hf : w.frozen? ⟨g, i, none⟩ = false) (hu : (w.setCell ⟨g, i, none⟩ (.int .u8 v)).cell? ⟨K, 21, none⟩ = some (.int .i64 u)) (hfu : (w.setCell ⟨g, i, none⟩ (.int .u8 v)).frozen? ⟨K, 21, none⟩ = false) :
    Calls Tryz.prog 231 #[aa K, .pointer (some ⟨g, i, none⟩), .int .u8 v] w fun e w' => e = .returned (.tuple #[]) ∧ w' = (w.setCell ⟨g, i, none⟩ (.int .u8 v)).setCell ⟨K, 21, none⟩ (.int .i64 (aE u)) := by
 obtain ⟨u', hu'⟩ : ∃ u', IntKind.i64.wrap (u + 1) = u' := ⟨_, rfl⟩
 have HU : Hid (aE u = u') := hide hu'
 go_enter Tryz.func231, Tryz.ntmps231
 go_wp2_with fail
 go_end0
 exact ⟨rfl, by rw [HU.out]⟩
theorem vO {a : Option Addr} {m c : Nat} (hc : w.cell? ⟨g, i, none⟩ = some x) (hf : w.frozen? ⟨g, i, none⟩ = false) (hu : (w.setCell ⟨g, i, none⟩ (.slice a m c)).cell? ⟨K, 21, none⟩ = some (.int .i64 u)) (hfu : (w.setCell ⟨g, i, none⟩ (.slice a m c)).frozen? ⟨K, 21, none⟩ = false) :
    Calls Tryz.prog 233 #[aa K, .pointer (some ⟨g, i, none⟩), .slice a m c] w fun e w' => e = .returned (.tuple #[]) ∧ w' = (w.setCell ⟨g, i, none⟩ (.slice a m c)).setCell ⟨K, 21, none⟩ (.int .i64 (aE u)) := by
 obtain ⟨u', hu'⟩ : ∃ u', IntKind.i64.wrap (u + 1) = u' := ⟨_, rfl⟩
 have HU : Hid (aE u = u') := hide hu'
 go_enter Tryz.func233, Tryz.ntmps233
 go_wp2_with fail
 go_end0
 exact ⟨rfl, by rw [HU.out]⟩
theorem qR {t : Int} (ht : aw t) : Calls Tryz.prog 232 #[.int .i64 t] w fun e w' => e = .returned (.int .u8 (bitM t)) ∧ w' = w := by
 rcases ht with rfl | rfl | rfl | rfl
 all_goals
  go_enter Tryz.func232, Tryz.ntmps232
  go_wp2_with fail
  go_ret
  exact ⟨rfl, rfl⟩
end
section
variable {N : Nat} {S : Nat → Prop} {A : Ad} {T : Th} {F : List Int} {n : Nat} {e : Es} {tv : Value} {w w' : World}
theorem dc {q : Nat} {t : Int} (h : En N S A T F n e tv w) (hq : q < n) (ht : aw t) :
    Calls Tryz.prog 214 #[aa A.K, .int .i64 q, .int .i64 t] w fun r w' => r = .returned (.bool (has e q t)) ∧ Below w.heap.size w w' := by
 have k8 := h.bx.get (i := 18) rfl
 have cm := h.mq.get (jl hq)
 have CB := hide fun d : Nat => qR (w := w.drewN d) ht
 have HS : Hid ((bits .and .u8 (e.mq q) (bitM t) != 0) = has e q t) := hide rfl
 generalize has e q t = o at *
 generalize e.mq q = x at *
 generalize bitM t = y at *
 clear h ht
 go_enter Tryz.func214, Tryz.ntmps214
 go_upto_region 1 with fail
 go_quiet ((go_at_call 232; exact Calls.quiet_of_same (CB.out _)))
 go_wp2_with fail
 go_ret
 exact ⟨by rw [← HS.out]; rfl, ah w _⟩
theorem me {r : Nat} (h : En N S A T F n e tv w) (hr : r < T.rules.length) :
    Calls Tryz.prog 234 #[aa A.K, .int .i64 r] w fun o w' => o = .returned (.bool (used e r)) ∧ w' = w := by
 have k8 := h.bx.get (i := 13) rfl
 have cm := (h.ms true).get (aY hr)
 have HS : Hid ((e.ms true r == 0) = used e r) := hide (by unfold used; by_cases e0 : e.ms true r = 0 <;> simp [e0])
 generalize used e r = o at *
 generalize e.ms true r = x at *
 clear h
 go_enter Tryz.func234, Tryz.ntmps234
 go_wp2_with fail
 go_ret
 exact ⟨by rw [← HS.out]; rfl, rfl⟩
theorem jg {r : Nat} (h : En N S A T F n e tv w) (hr : r < T.rules.length) :
    Calls Tryz.prog 211 #[aa A.K, .int .i64 r] w fun o w' => o = .returned (.bool (dropped e r)) ∧ w' = w := by
 have k8 := h.bx.get (i := 14) rfl
 have cm := (h.rf true).get (dy hr)
 have HS : Hid (e.rf true r = dropped e r) := hide rfl
 generalize dropped e r = o at *
 generalize e.rf true r = x at *
 clear h
 go_enter Tryz.func211, Tryz.ntmps211
 go_wp2_with fail
 go_ret
 exact ⟨by rw [← HS.out]; rfl, rfl⟩
theorem kF {q : Nat} (h : En N S A T F n e tv w) (hq : q < n) :
    Calls Tryz.prog 212 #[aa A.K, .int .i64 q] w fun o w' => o = .returned (.tuple #[]) ∧ En N S A T F n (fM e q) tv w' ∧ Fr (fun k => ¬ S k) w w' := by
 have k8 := h.bx.get (i := 17) rfl
 have cm := h.ob.get (aY hq)
 obtain ⟨v', hv'⟩ : ∃ v', IntKind.i64.wrap (e.ob q - 1) = v' := ⟨_, rfl⟩
 have HV : Hid (lT (e.ob q) = v') := hide hv'
 have HE := hide h
 have HQ := hide hq
 generalize e.ob q = x at cm hv'
 clear h
 have Aa : Tryz.prog.follows .mixedOrders = true := by kernel_rfl
 go_enter Tryz.func212, Tryz.ntmps212
 go_wp2_with fail
 refine aK (by assumption) (by kernel_rfl) (by kernel_rfl) (by kernel_rfl) (by kernel_rfl) ?_
 dsimp only [List.dropLast, List.getLast, List.cons_append, List.nil_append]
 repeat (go_big_quiet_step (fail))
 refine wpQuiet_nil ?_
 rintro _ ⟨nq, rfl⟩
 have hE := HE.out.drewN nq
 have h1 := hE.setOb HQ.out v'
 have h2 := h1.1.setUp (aE e.up)
 have CS := hide (fE (K := A.K) (v := v') (hE.ob.get (aY HQ.out)) (hE.ob.frz q) (h1.1.bx.get (i := 21) rfl) (h1.1.bx.frz 21))
 have HN : Hid (En N S A T F n (fM e q) tv (((w.drewN nq).setCell ⟨A.ob, q, none⟩ (.int .i64 v')).setCell ⟨A.K, 21, none⟩ (.int .i64 (aE e.up)))) := hide (by
  unfold fM
  rw [HV.out]
  exact h2.1)
 have HF := hide ((Fr.of_below (ah w nq)).trans (h1.2.trans h2.2))
 clear hE h1 h2 k8 cm
 go_wp2_with (go_at_call 223; refine CS.out.mono ?_; rintro _ w2 ⟨rfl, rfl⟩)
 go_end0
 exact ⟨rfl, HN.out, HF.out⟩
end
end Go.Proofs.YtmlhcncagdfjfaaGreat.Fa
