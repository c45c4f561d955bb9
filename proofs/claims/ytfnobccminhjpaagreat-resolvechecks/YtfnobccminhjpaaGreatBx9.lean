/- Two boxes of a call: its argument, in which fields are laid anew, and its answer. -/
import Derived.Test.YtfnobccminhjpaaGreatCz9
import Derived.Test.YtfnobccminhjpaaGreatOpen9
import Derived.Test.YtfnobccminhjpaaGreatSp
import Derived.Deep.AppendSrc
import Derived.BigFrame
import Derived.Test.YtfnobccminhjpaaGreatNum8
import Derived.Test.YtfnobccminhjpaaGreatItems8
namespace Go.Proofs.YtfnobccminhjpaaGreat
open Go.RowKit Go.Shelf Go.Maps Go.WideMaps

def setAll (w : World) (q : Nat) : Nat → List Value → World
  | _, [] => w
  | i, v :: vs => setAll (w.setCell ⟨q, i, none⟩ v) q (i + 1) vs
def setArr (cs : Array Value) : Nat → List Value → Array Value
  | _, [] => cs
  | i, v :: vs => setArr (cs.setIfInBounds i v) (i + 1) vs
theorem setAll_same {q T : Nat} : ∀ {vs : List Value} {w : World} {i : Nat} {cs : Array Value}, w.heap[q]? = some (.cells cs T (0, 0)) → (setAll w q i vs).heap[q]? = some (.cells (setArr cs i vs) T (0, 0))
  | [], _, _, _, h => h
  | _ :: vs, _, _, _, h => setAll_same (vs := vs) (loc_set h)
theorem setAll_other {q g : Nat} (hg : g ≠ q) : ∀ {vs : List Value} {w : World} {i : Nat}, (setAll w q i vs).heap[g]? = w.heap[g]?
  | [], _, _ => rfl
  | v :: vs, w, i => (setAll_other hg (vs := vs)).trans (heap_setCell_other w ⟨q, i, none⟩ g v hg)
theorem setAll_below {B q : Nat} (hq : B ≤ q) : ∀ {vs : List Value} {w0 w : World} {i : Nat}, Below B w0 w → Below B w0 (setAll w q i vs)
  | [], _, _, _, h => h
  | v :: vs, _, _, i, h => setAll_below hq (vs := vs) (h.setCell (p := ⟨q, i, none⟩) hq v)
theorem setAll_size {q : Nat} : ∀ {vs : List Value} {w : World} {i : Nat}, (setAll w q i vs).heap.size = w.heap.size
  | [], _, _ => rfl
  | v :: vs, w, i => (setAll_size (vs := vs)).trans (by simp)
theorem setArr_all : ∀ {vs zs pre : List Value}, zs.length = vs.length → setArr (pre ++ zs).toArray pre.length vs = (pre ++ vs).toArray
  | [], [], _, _ => rfl
  | v :: vs, z :: zs, pre, h => by
    have e : (pre ++ z :: zs).toArray.setIfInBounds pre.length v = ((pre ++ [v]) ++ zs).toArray := by simp
    have h2 := setArr_all (vs := vs) (zs := zs) (pre := pre ++ [v]) (by simpa using h)
    unfold setArr
    rw [e]
    simpa using h2
theorem two_boxes9 (w : World) (o1 o2 : Obj) : Below w.heap.size w ((w.alloc o1).alloc o2) ∧ ((w.alloc o1).alloc o2).heap[w.heap.size]? = some o1 ∧ ((w.alloc o1).alloc o2).heap[w.heap.size + 1]? = some o2 := by
  have hs1 : (w.alloc o1).heap.size = w.heap.size + 1 := by simp
  have hA1 : Below w.heap.size w (w.alloc o1) := (Below.refl _ w).alloc (Nat.le_refl _) _
  refine ⟨hA1.alloc (by omega) _, (Below.heap_alloc _ o2 _ (by omega)).trans (heap_alloc_new w o1), ?_⟩
  have := heap_alloc_new (w.alloc o1) o2
  rw [hs1] at this
  exact this
/-- The argument's box holds A, the answer's Z0. -/
structure Bx (T : Nat) (A Z0 : List Value) (w W : World) : Prop where
  low : Below w.heap.size w W
  b1 : W.heap[w.heap.size]? = some (.cells A.toArray T (0, 0))
  b2 : W.heap[w.heap.size + 1]? = some (.cells Z0.toArray T (0, 0))
/-- A block made behind the two boxes. -/
abbrev Nb (w w' : World) (g : Nat) : Prop := w.heap.size + 2 ≤ g ∧ g < w'.heap.size
theorem Bx.two {T : Nat} {A Z0 : List Value} {w : World} : Bx T A Z0 w ((w.alloc (.cells A.toArray T)).alloc (.cells Z0.toArray T)) := by
  obtain ⟨h1, h2, h3⟩ := two_boxes9 w (.cells A.toArray T) (.cells Z0.toArray T)
  exact ⟨h1, h2, h3⟩
section
variable {T : Nat} {A A' Z0 : List Value} {w W w3 : World}
theorem Bx.big (h : Bx T A Z0 w W) : w.heap.size + 2 ≤ W.heap.size := loc_lt h.b2
theorem Bx.call (h : Bx T A Z0 w W) (hb : Below W.heap.size W w3) : Bx T A Z0 w w3 := ⟨h.low.trans (hb.mono h.low.size), (hb.block _ (loc_lt h.b1)).trans h.b1, (hb.block _ (loc_lt h.b2)).trans h.b2⟩
theorem Bx.set (h : Bx T A Z0 w W) (i : Nat) (vs : List Value) (hA : setArr A.toArray i vs = A'.toArray) : Bx T A' Z0 w (setAll W w.heap.size i vs) :=
  ⟨setAll_below (Nat.le_refl _) h.low, by rw [setAll_same h.b1, hA], (setAll_other (by omega)).trans h.b2⟩
theorem Bx.agn (h : Bx T A Z0 w W) (i : Nat) (vs : List Value) : Ag (Nw W w3) (Nb w (setAll w3 w.heap.size i vs)) w3 (setAll w3 w.heap.size i vs) := fun g hg => by
  have := h.big
  exact ⟨⟨by omega, by rw [setAll_size]; exact hg.2⟩, setAll_other (by omega)⟩
theorem Bx.ago (hb : Below W.heap.size W w3) (i : Nat) (vs : List Value) : Ag (Nb w W) (Nb w (setAll w3 w.heap.size i vs)) W (setAll w3 w.heap.size i vs) := fun g hg =>
  ⟨⟨hg.1, by rw [setAll_size]; exact Nat.lt_of_lt_of_le hg.2 hb.size⟩, (setAll_other (by omega)).trans (hb.block g hg.2)⟩
theorem Bx.agf : Ag (Nb w W) (Nw w (setAll W (w.heap.size + 1) 0 A)) W (setAll W (w.heap.size + 1) 0 A) := fun g hg =>
  ⟨⟨by omega, by rw [setAll_size]; exact hg.2⟩, setAll_other (by omega)⟩
theorem Bx.fin (h : Bx T A Z0 w W) (hA : Z0.length = A.length) : (setAll W (w.heap.size + 1) 0 A).heap[w.heap.size + 1]? = some (.cells A.toArray T (0, 0)) ∧ Below w.heap.size w (setAll W (w.heap.size + 1) 0 A) :=
  ⟨by have e := setArr_all (pre := []) hA; simp only [List.nil_append, List.length_nil] at e; rw [setAll_same h.b2, e], setAll_below (Nat.le_succ _) h.low⟩
end
section
variable {w W : World} (hb : Below w.heap.size w W)
include hb
theorem RR.go {α : Type} {k : Nat} {c c' : World → α → List Value → Prop} {l : List α} {v : Value} (h : RR w.heap.size k c w l v) (hc : ∀ a xs, c w a xs → c' W a xs) : RR W.heap.size k c' W l v := by
  obtain ⟨a, cap, e, hcap, hl, h⟩ := h
  refine ⟨a, cap, e, hcap, hl, fun i x hi => ?_⟩
  obtain ⟨g, o, xs, ea, hg, hxs, hcell, hx⟩ := h i x hi
  exact ⟨g, o, xs, ea, Nat.lt_of_lt_of_le hg hb.size, hxs, fun j u hu => (World.cell?_of_block (hb.block g hg)).trans (hcell j u hu), hc _ _ hx⟩
theorem Strs.go {l : List Bytes} {v : Value} (h : Strs w.heap.size w l v) : Strs W.heap.size W l v := RR.go hb h fun _ _ h => h
theorem Moneys.go {l : List Int} {v : Value} (h : Moneys w.heap.size w l v) : Moneys W.heap.size W l v := RR.go hb h fun _ _ h => h
theorem cTerm.go {a : TermM} {xs : List Value} (h : cTerm w.heap.size w a xs) : cTerm W.heap.size W a xs := by obtain ⟨av, h1, h2, h3⟩ := h; exact ⟨av, h1, h2, Strs.go hb h3⟩
theorem Terms.go {l : List TermM} {v : Value} (h : Terms w.heap.size w l v) : Terms W.heap.size W l v := RR.go hb h fun _ _ h => cTerm.go hb h
theorem cLit.go {a : LitM} {xs : List Value} (h : cLit w.heap.size w a xs) : cLit W.heap.size W a xs := by obtain ⟨av, h1, h2, h3⟩ := h; exact ⟨av, h1, h2, Strs.go hb h3⟩
theorem cGuard.go {a : GuardM} {xs : List Value} (h : cGuard w.heap.size w a xs) : cGuard W.heap.size W a xs := by obtain ⟨lv, rv, h1, h2, h3⟩ := h; exact ⟨lv, rv, h1, Terms.go hb h2, Terms.go hb h3⟩
theorem cPrem.go {a : PremM} {xs : List Value} (h : cPrem w.heap.size w a xs) : cPrem W.heap.size W a xs := by obtain ⟨ls, gs, h1, h2, h3, h4⟩ := h; exact ⟨ls, gs, h1, cLit.go hb h2, cGuard.go hb h3, h4⟩
theorem Prems.go {l : List PremM} {v : Value} (h : Prems w.heap.size w l v) : Prems W.heap.size W l v := RR.go hb h fun _ _ h => cPrem.go hb h
theorem cRule.go {a : RuleM} {xs : List Value} (h : cRule w.heap.size w a xs) : cRule W.heap.size W a xs := by obtain ⟨bv, ls, h1, h2, h3, h4, h5⟩ := h; exact ⟨bv, ls, h1, h2, h3, Prems.go hb h4, cLit.go hb h5⟩
theorem cPred.go {a : PredM} {xs : List Value} (h : cPred w.heap.size w a xs) : cPred W.heap.size W a xs := by obtain ⟨kv, vv, h1, h2, h3, h4⟩ := h; exact ⟨kv, vv, h1, h2, Strs.go hb h3, Moneys.go hb h4⟩
theorem cClass.go {a : List Bytes} {xs : List Value} (h : cClass w.heap.size w a xs) : cClass W.heap.size W a xs := by obtain ⟨cv, h1, h2⟩ := h; exact ⟨cv, h1, Strs.go hb h2⟩
theorem cTotal.go {a : TotalM} {xs : List Value} (h : cTotal w.heap.size w a xs) : cTotal W.heap.size W a xs := by obtain ⟨pv, h1, h2, h3, h4⟩ := h; exact ⟨pv, h1, h2, h3, Strs.go hb h4⟩
theorem SR.go {S : StatM} {st : St9} (h : SR w.heap.size w S st) : SR W.heap.size W S st :=
  ⟨h.title, Strs.go hb h.kinds, RR.go hb h.members fun _ _ h => h, RR.go hb h.preds fun _ _ h => cPred.go hb h, RR.go hb h.classes fun _ _ h => cClass.go hb h, RR.go hb h.sources fun _ _ h => h, RR.go hb h.rules fun _ _ h => cRule.go hb h, RR.go hb h.excepts fun _ _ h => h, RR.go hb h.totals fun _ _ h => cTotal.go hb h⟩
end
end Go.Proofs.YtfnobccminhjpaaGreat
/- Appending a row to a row of the call's own: things of any size. -/
namespace Go.Proofs.YtfnobccminhjpaaGreat
open Go.RowKit

theorem grown_row {w : World} {base : Nat} (hbase : base ≤ w.heap.size) {e : TypeId} {z : Value} {k n m old : Nat} {xs news : List Value} (hz : z.cells.size = k) (hx : xs.length = n * k) (hn : news.length = m * k) (hlim : n + m ≤ 1000000) (row : Option Nat) :
    (w.drew.alloc (.cells ((xs ++ news).toArray ++ Builtin.zeroCells z.cells (grownCap w (n + m) old e - (n + m))) e)).ownsRow base e k (.slice (some ⟨w.heap.size, 0, none⟩) (n + m) (grownCap w (n + m) old e)) (n + m) (xs ++ news) ∧
      w.grownBy (w.drew.alloc (.cells ((xs ++ news).toArray ++ Builtin.zeroCells z.cells (grownCap w (n + m) old e - (n + m))) e)) row := by
  have hge := grownCap_ge w (n + m) old e
  have hle := grownCap_le_maxLen w (n + m) old e (by unfold maxLen; omega)
  have hlen : (xs ++ news).length = (n + m) * k := by rw [List.length_append, Nat.add_mul]; omega
  constructor
  · refine ⟨hlen, .inr ⟨w.heap.size, _, _, rfl, hbase, heap_alloc_new w.drew _, hge, hle, ?_, ?_⟩⟩
    · rw [Array.size_append, size_zeroCells, hz]
      simp only [List.size_toArray, hlen]
      generalize grownCap w (n + m) old e = c at *
      rw [← Nat.add_mul]
      congr 1
      omega
    · rw [Array.toList_append, ← hlen]
      exact List.take_left
  · exact ⟨rfl, rfl, rfl, by simp, fun k hk _ => Go.heap_alloc_old w.drew _ hk⟩

theorem run_append_src {P : Program} (w : World) {base : Nat} (hbase : base ≤ w.heap.size) (t tx ty e : TypeId) (i : TypeInfo) (z : Value) (k b : Nat) (ht : P.underlying t = some (.slice e)) (hi : P.info? e = some i) (hz : i.zero = some z) (hs1 : i.size = k) (hb1 : i.bytes = b) (hb : b ≤ 200) (hzc : z.cells.size = k)
    (v : Value) (n : Nat) (xs : List Value) (hown : w.ownsRow base e k v n xs) (x : Value) (m : Nat) (news : List Value) (hsrc : Src P k tx x m news w) (hlim : n + m ≤ 1000000) :
    ∃ v' w', (Builtin.append_ #[t, tx] ty #[v, x]).run P w = .ok v' w' ∧ w'.ownsRow base e k v' (n + m) (xs ++ news) ∧ w.grownBy w' v.ownBlock := by
  have hxl : xs.length = n * k := hown.1
  have hnl : news.length = m * k := hsrc.newsLen
  have hsrc' : Src P i.size tx x m news w := by rw [hs1]; exact hsrc
  have hmb : (n + m) * i.bytes ≤ 140737488355328 := by
    rw [hb1]
    exact Nat.le_trans (Nat.mul_le_mul hlim hb) (by decide)
  have hfit : ∀ old, old < n + m → Builtin.nextslicecap (n + m) old * i.bytes ≤ 281474976710656 := fun old ho => growslice_fits ho hmb
  rcases hown.2 with ⟨rfl, rfl⟩ | ⟨g, cap, cur, rfl, hbg, hg, hnc, hcm, hcs, htake⟩
  · have hx0 : xs = [] := List.eq_nil_of_length_eq_zero (by omega)
    subst hx0
    by_cases hm : m = 0
    · subst hm
      have hn0 : news = [] := List.eq_nil_of_length_eq_zero (by omega)
      subst hn0
      refine ⟨.slice none 0 0, w, ?_, World.ownsRow_nil w base e k, ⟨rfl, rfl, rfl, Nat.le_refl _, fun _ _ _ => rfl⟩⟩
      rcases hsrc'.kind with ⟨e', hk⟩ | hk <;> simp [Builtin.append_, run_underlying ht, run_underlying hk, sizeOf, typeInfo, hi, hsrc'.len, hsrc'.cells]
    · have hr := run_append_grow_src (P := P) w t tx ty e i z ht hi hz none 0 0 [] (run_firstCells_none w.drew i.size 0 0 0) x m news hsrc' (by omega) (by omega) (hfit 0 (by omega))
      have hgr := grown_row hbase (w := w) (e := e) (old := 0) hzc hxl hnl (by omega) (Value.ownBlock (.slice none 0 0))
      exact ⟨_, _, hr, hgr.1, hgr.2⟩
  · by_cases hroom : n + m ≤ cap
    · have hrk : n * k + m * k ≤ cap * k := by rw [← Nat.add_mul]; exact Nat.mul_le_mul_right k hroom
      have hst := run_storeCells_at P g (n * i.size) e news 0 cur w hg (by rw [hs1]; omega) hsrc.one
      simp only [Nat.add_zero] at hst
      refine ⟨.slice (some ⟨g, 0, none⟩) (n + m) cap, w.setRow g (cur.toList.take (n * i.size) ++ news ++ cur.toList.drop (n * i.size + news.length)).toArray, ?_, ?_, ?_⟩
      · rcases hsrc'.kind with ⟨e', hk⟩ | hk <;> simp [Builtin.append_, run_underlying ht, run_underlying hk, sizeOf, typeInfo, hi, hsrc'.len, hroom, hsrc'.cells, Addr.add_lit, hst]
      · have hlen : (xs ++ news).length = (n + m) * k := by rw [List.length_append, Nat.add_mul]; omega
        refine ⟨hlen, .inr ⟨g, cap, _, rfl, hbg, setRow_heap w g cur _ e _ hg, hroom, hcm, ?_, ?_⟩⟩
        · simp only [List.size_toArray, List.length_append, List.length_take, List.length_drop, Array.length_toList, hs1, hnl] at hcs ⊢
          omega
        · rw [hs1, htake, ← hlen]
          exact List.take_left
      · exact ⟨rfl, rfl, rfl, by simp [World.setRow], fun k _ hk => setRow_other w g k _ (fun e => hk (by simp [Value.ownBlock, e]))⟩
    · have hold := run_firstCells_some (P := P) w.drew i.size n ⟨g, 0, none⟩ n cap xs (by rw [hs1]; omega) (by simpa using hown.cells (g := g) rfl)
      have hr := run_append_grow_src (P := P) w t tx ty e i z ht hi hz (some ⟨g, 0, none⟩) n cap xs hold x m news hsrc' (by omega) (by omega) (hfit cap (by omega))
      have hgr := grown_row hbase (w := w) (e := e) (old := cap) hzc hxl hnl (by omega) (Value.ownBlock (.slice (some ⟨g, 0, none⟩) n cap))
      exact ⟨_, _, hr, hgr.1, hgr.2⟩

/-- The same, as the walk takes it. -/
theorem wpList_append_src {P : Program} (w : World) {base : Nat} (hbase : base ≤ w.heap.size) {ops : Array Oper} {rest : List Oper} {o : Oper} {a : Act} {Q : Exit → Act → World → Prop} (hgd : Region.wanted o (yielded ops a.tmps) = true) (s x : Operand) (t tx : TypeId)
    (ho : o.op = .call { callee := .builtin .append, args := #[s, x], argTypes := #[t, tx] }) (e : TypeId) (i : TypeInfo) (z : Value) (k b : Nat) (ht : P.underlying t = some (.slice e)) (hi : P.info? e = some i) (hz : i.zero = some z) (hs1 : i.size = k) (hb1 : i.bytes = b) (hb : b ≤ 200) (hzc : z.cells.size = k)
    (v : Value) (n : Nat) (xs : List Value) (hs : a.eval s = v) (hown : w.ownsRow base e k v n xs) (y : Value) (m : Nat) (news : List Value) (hx : a.eval x = y) (hsrc : Src P k tx y m news w) (hlim : n + m ≤ 1000000)
    (h : ∀ v' w', w'.ownsRow base e k v' (n + m) (xs ++ news) → w.grownBy w' v.ownBlock → wpList P ops Q rest (a.put o.dst v') w') : wpList P ops Q (o :: rest) a w := by
  refine BigFrame.wpList_want hgd fun K hK => ?_
  obtain ⟨v', w', hr, h2, h3⟩ := run_append_src (P := P) w hbase t tx o.type e i z k b ht hi hz hs1 hb1 hb hzc v n xs hown y m news hsrc hlim
  unfold Oper.wp execOp
  simp only [ho, resolve, invoke, builtin, Sem.run_bind, Sem.run_pure, Result.andThen_ok, List.map_toArray, List.map_cons, List.map_nil, hs, hx, hr]
  exact hK _ _ (h v' w' h2 h3)
end Go.Proofs.YtfnobccminhjpaaGreat
/- A map of names to numbers, however many: what it holds is told by a list of pairs, the first of a name. -/
namespace Go.Proofs.YtfnobccminhjpaaGreat
open Go.RowKit Go.Shelf Go.Maps Go.WideMaps

/-- The number of a name: that of the first pair that has it. -/
def asc : List (Bytes × Int) → Bytes → Option Int
  | [], _ => none
  | x :: r, s => if x.1 = s then some x.2 else asc r s
theorem asc_app (L M : List (Bytes × Int)) (s : Bytes) : asc (L ++ M) s = (asc L s).or (asc M s) := by
  induction L with
  | nil => rfl
  | cons x r ih =>
    simp only [List.cons_append, asc]
    split
    · rfl
    · exact ih
theorem asc_same {L : List (Bytes × Int)} {s : Bytes} {n : Int} (h : (asc L s).isSome = true) (t : Bytes) : asc (L ++ [(s, n)]) t = asc L t := by
  rw [asc_app]
  by_cases e : t = s
  · subst e
    obtain ⟨v, hv⟩ := Option.isSome_iff_exists.1 h
    rw [hv]; rfl
  · have : asc [(s, n)] t = none := by simp only [asc]; rw [if_neg (fun h => e h.symm)]
    rw [this, Option.or_none]
theorem asc_new {L : List (Bytes × Int)} {s : Bytes} {n : Int} (h : asc L s = none) (t : Bytes) : asc (L ++ [(s, n)]) t = if t = s then some n else asc L t := by
  rw [asc_app]
  by_cases e : t = s
  · subst e
    rw [h, if_pos rfl]
    simp [asc]
  · have : asc [(s, n)] t = none := by simp only [asc]; rw [if_neg (fun h => e h.symm)]
    rw [this, Option.or_none, if_neg e]

def PMap (w : World) (b : Nat) (L : List (Bytes × Int)) : Prop := ∃ es clock, w.heap[b]? = some (.map es clock) ∧
  (∀ x ∈ es.toList, ∃ (s : Bytes) (v : Int), x.key = .string ⟨s.toArray⟩ ∧ s.length ≤ maxLen ∧ x.val = .int .i64 v ∧ asc L s = some v) ∧ ∀ s v, asc L s = some v → ∃ x ∈ es.toList, x.key = .string ⟨s.toArray⟩
theorem str_inj {s t : Bytes} (h : (Value.string ⟨s.toArray⟩) = .string ⟨t.toArray⟩) : s = t := by
  injection h with h
  injection h with h
  exact congrArg Array.toList h
section
variable {w w' : World} {b : Nat} {L : List (Bytes × Int)}
theorem PMap.made (w : World) : PMap (w.alloc (.map #[] 0)) w.heap.size [] := ⟨#[], 0, heap_alloc_new w _, by simp, fun s v h => by simp [asc] at h⟩
theorem PMap.keep (h : PMap w b L) (hb : w'.heap[b]? = w.heap[b]?) : PMap w' b L := by
  obtain ⟨es, c, h1, h2⟩ := h
  exact ⟨es, c, hb.trans h1, h2⟩
theorem PMap.lt (h : PMap w b L) : b < w.heap.size := by obtain ⟨es, c, h1, _⟩ := h; exact loc_lt h1
theorem PMap.look (h : PMap w b L) (s : Bytes) (hs : s.length ≤ maxLen) : (Instr.lookup 98 (.map (some b)) (.string ⟨s.toArray⟩) true).run Tryz.prog w = .ok (.tuple #[.int .i64 ((asc L s).getD 0), .bool (asc L s).isSome]) w := by
  obtain ⟨es, clock, hb, hk, ha⟩ := h
  have hkey := key_mk hs
  rcases law.find w hkey es.toList (fun e he => by obtain ⟨t, v, h1, h2, _⟩ := hk e he; rw [h1]; exact ⟨_, key_mk h2⟩) with ⟨h1, h2⟩ | ⟨j, e0, h1, h2, h3⟩
  · have hn : asc L s = none := by
      cases hc : asc L s with
      | none => rfl
      | some v => obtain ⟨x, hx, hxk⟩ := ha s v hc; exact absurd hxk (h2 x hx)
    rw [hn]
    simp [Instr.lookup, run_underlying Tryz.underlying98, MapKept.run_getObj_map hb, law.check w _ hkey, h1, Tryz.zeroValue3, Result.andThen]
  · obtain ⟨t, v, k1, _, k3, k4⟩ := hk e0 (List.mem_of_getElem? h2)
    have e : t = s := str_inj (k1.symm.trans h3)
    subst e
    rw [k4]
    simp [Instr.lookup, run_underlying Tryz.underlying98, MapKept.run_getObj_map hb, law.check w _ hkey, h1, k3, Result.andThen]
theorem PMap.put (h : PMap w b L) (s : Bytes) (hs : s.length ≤ maxLen) (n : Int) (hn : asc L s = none) : ∃ w', (Instr.mapUpdate 98 (.map (some b)) (.string ⟨s.toArray⟩) (.int .i64 n)).run Tryz.prog w = .ok () w' ∧ PMap w' b (L ++ [(s, n)]) ∧ w.grownBy w' (some b) := by
  obtain ⟨es, clock, hb, hk, ha⟩ := h
  have hkey := key_mk hs
  rcases law.find w hkey es.toList (fun e he => by obtain ⟨t, v, h1, h2, _⟩ := hk e he; rw [h1]; exact ⟨_, key_mk h2⟩) with ⟨h1, h2⟩ | ⟨j, e0, h1, h2, h3⟩
  · refine ⟨Go.ChangeMaps.setBlock w b (.map (es.push ⟨.string ⟨s.toArray⟩, .int .i64 n, clock⟩) (clock + 1)), ?_, ⟨_, _, Go.ChangeMaps.heap_setBlock_same hb _, ?_, ?_⟩, ⟨rfl, rfl, rfl, by simp [Go.ChangeMaps.setBlock], fun i _ hi => Go.ChangeMaps.heap_setBlock_other hb _ (fun e => hi (by rw [e]))⟩⟩
    · simp [Instr.mapUpdate, run_underlying Tryz.underlying98, MapKept.run_getObj_map hb, law.check w false hkey, h1, MapKept.run_setObj_map _ hb, Result.andThen, Go.ChangeMaps.setBlock]
    · intro x hx
      simp only [Array.toList_push, List.mem_append, List.mem_singleton] at hx
      rcases hx with hx | rfl
      · obtain ⟨t, v, k1, k2, k3, k4⟩ := hk x hx
        refine ⟨t, v, k1, k2, k3, ?_⟩
        rw [asc_new hn, if_neg (fun e => by subst e; rw [hn] at k4; cases k4)]
        exact k4
      · exact ⟨s, n, rfl, hs, rfl, by rw [asc_new hn, if_pos rfl]⟩
    · intro t v hv
      rw [asc_new hn] at hv
      by_cases e : t = s
      · subst e
        exact ⟨⟨.string ⟨t.toArray⟩, .int .i64 n, clock⟩, by simp, rfl⟩
      · rw [if_neg e] at hv
        obtain ⟨x, hx, hxk⟩ := ha t v hv
        exact ⟨x, by simp [Array.mem_toList_iff.1 hx], hxk⟩
  · obtain ⟨t, v, k1, _, k3, k4⟩ := hk e0 (List.mem_of_getElem? h2)
    have e : t = s := str_inj (k1.symm.trans h3)
    subst e
    rw [hn] at k4
    cases k4
theorem PMap.more (h : PMap w b L) (s : Bytes) (n : Int) (hn : (asc L s).isSome = true) : PMap w b (L ++ [(s, n)]) := by
  obtain ⟨es, clock, hb, hk, ha⟩ := h
  refine ⟨es, clock, hb, fun x hx => ?_, fun t v hv => ?_⟩
  · obtain ⟨t, v, k1, k2, k3, k4⟩ := hk x hx
    exact ⟨t, v, k1, k2, k3, by rw [asc_same hn]; exact k4⟩
  · rw [asc_same hn] at hv
    exact ha t v hv

set_option maxRecDepth 100000 in
set_option maxHeartbeats 1600000 in
theorem putP_any (hm : PMap w b L) (s : Bytes) (hs : s.length ≤ maxLen) (n : Int) :
    Calls Tryz.prog 87 #[.map (some b), str s, .int .i64 n] w fun e w' => (∃ x, e = .returned (.bool x)) ∧ PMap w' b (L ++ [(s, n)]) ∧ Fr (fun k => k = b) w w' := by
  have HL := hm.look s hs
  unfold str
  cases hc : asc L s with
  | some v =>
    have HM := hide (hm.more s n (by rw [hc]; rfl))
    rw [hc] at HL
    simp only [Option.getD_some, Option.isSome_some] at HL
    clear hm hc
    go_enter Tryz.func87, Tryz.ntmps87
    go_wp2_with fail
    go_ret
    exact ⟨⟨_, rfl⟩, HM.out, .refl _ _⟩
  | none =>
    obtain ⟨w1, HU, hm1, hg1⟩ := hm.put s hs n hc
    rw [hc] at HL
    simp only [Option.getD_none, Option.isSome_none] at HL
    have HM := hide hm1
    have HG := hide hg1
    clear hm hc hm1 hg1
    go_enter Tryz.func87, Tryz.ntmps87
    go_wp2_with fail
    go_ret
    exact ⟨⟨_, rfl⟩, HM.out, .of_grown HG.out fun k e => by cases e; rfl⟩
end

/-- The pairs of classes: of each name its class's number. -/
def prs : Nat → List (List Bytes) → List (Bytes × Int)
  | _, [] => []
  | k, l :: r => l.map (fun s => (s, (k : Int))) ++ prs (k + 1) r
/-- The first class that has a name. -/
def clsF : Nat → List (List Bytes) → Bytes → Int
  | _, [], _ => -1
  | k, l :: r, s => if s ∈ l then k else clsF (k + 1) r s
theorem asc_map (l : List Bytes) (k : Int) (s : Bytes) : asc (l.map fun s => (s, k)) s = if s ∈ l then some k else none := by
  induction l with
  | nil => rfl
  | cons x r ih =>
    simp only [List.map_cons, asc, List.mem_cons]
    by_cases e : x = s
    · subst e; simp
    · rw [if_neg e, ih]
      have : (s = x ∨ s ∈ r) ↔ s ∈ r := ⟨fun h => h.resolve_left fun h => e h.symm, .inr⟩
      simp only [this]
theorem asc_prs (cs : List (List Bytes)) (k : Nat) (s : Bytes) : (match asc (prs k cs) s with | some v => v | none => -1) = clsF k cs s := by
  induction cs generalizing k with
  | nil => rfl
  | cons l r ih =>
    simp only [prs, clsF, asc_app, asc_map]
    by_cases h : s ∈ l
    · rw [if_pos h, if_pos h]; rfl
    · rw [if_neg h, if_neg h, Option.none_or]; exact ih (k + 1)
theorem prs_app (cs ds : List (List Bytes)) (k : Nat) : prs k (cs ++ ds) = prs k cs ++ prs (k + cs.length) ds := by
  induction cs generalizing k with
  | nil => rfl
  | cons l r ih =>
    simp only [List.cons_append, prs, ih, List.length_cons, List.append_assoc]
    congr 3
    omega
theorem prs_snoc {cs : List (List Bytes)} {i : Nat} {l : List Bytes} (h : cs[i]? = some l) : prs 0 (cs.take (i + 1)) = prs 0 (cs.take i) ++ l.map (fun s => (s, (i : Int))) := by
  have hi : i < cs.length := by
    apply Classical.byContradiction
    intro hn
    rw [List.getElem?_eq_none (by omega)] at h
    cases h
  rw [take_snoc h, prs_app]
  have e : (0 + (cs.take i).length) = i := by simp; omega
  rw [e]
  simp only [prs, List.append_nil]
theorem clsF_step {cs : List (List Bytes)} {i : Nat} {l : List Bytes} (h : cs[i]? = some l) (s : Bytes) : clsF i (cs.drop i) s = if s ∈ l then (i : Int) else clsF (i + 1) (cs.drop (i + 1)) s := by
  have hi : i < cs.length := by
    apply Classical.byContradiction
    intro hn
    rw [List.getElem?_eq_none (by omega)] at h
    cases h
  rw [List.drop_eq_getElem_cons hi]
  have : cs[i] = l := by
    rw [List.getElem?_eq_getElem hi] at h
    exact Option.some.inj h
  rw [this]
  rfl
end Go.Proofs.YtfnobccminhjpaaGreat
/- Rows that are gathered beside a statute; what Sorts, Of, Class answer: plain words. -/
namespace Go.Proofs.YtfnobccminhjpaaGreat
open Go.RowKit Go.Shelf Go.Maps Go.WideMaps

/-- A row that is gathered beside a statute in its box. -/
structure GI (T : Nat) (st : St9) (w : World) (n : Nat) (xs : List Value) (mv : Value) (wr : World) : Prop where
  low : Below w.heap.size w wr
  box : wr.heap[w.heap.size]? = some (.cells #[st.title, st.kinds, st.members, st.preds, st.classes, st.sources, st.rules, st.excepts, st.totals] 31 (0, 0))
  row : wr.ownsRow (w.heap.size + 1) T 1 mv n xs
theorem GI.grow {T : Nat} {st : St9} {w : World} {n : Nat} {mv : Value} {wd w4 : World} {xs ys : List Value} {ob : Obj} {g4 cap4 : Nat} (h : GI T st w n xs mv wd) (hown : w4.ownsRow (w.heap.size + 1) T 1 (.slice (some ⟨g4, 0, none⟩) (n + 1) cap4) (n + 1) ys)
    (hg : (mv.ownBlock = some g4 ∧ (wd.alloc ob).grownBy w4 (some g4)) ∨ (g4 = wd.heap.size + 1 ∧ (wd.alloc ob).grownBy w4 none)) : GI T st w (n + 1) ys (.slice (some ⟨g4, 0, none⟩) (n + 1) cap4) w4 := by
  have hfr := grown_fr (Z := fun k => w.heap.size + 1 ≤ k) rfl hg fun g e => (h.row.lt g e).1
  have hl := loc_lt h.box
  exact ⟨h.low.trans (hfr.below fun k hk => ⟨by omega, by show ¬ w.heap.size + 1 ≤ k; omega⟩), (hfr.block _ hl (by show ¬ w.heap.size + 1 ≤ w.heap.size; omega)).trans h.box, hown⟩
theorem GI.below {T : Nat} {st : St9} {w : World} {n : Nat} {xs : List Value} {mv : Value} {wr w' : World} (h : GI T st w n xs mv wr) (hb : Below wr.heap.size wr w') : GI T st w n xs mv w' :=
  ⟨h.low.trans (hb.mono h.low.size), (hb.block _ (loc_lt h.box)).trans h.box, owns_keep h.row fun g hg => hb.block g (owns_lt h.row hg)⟩
theorem GI.start {T : Nat} {st : St9} (w : World) : GI T st w 0 [] (.slice none 0 0) (w.alloc (.cells #[st.title, st.kinds, st.members, st.preds, st.classes, st.sources, st.rules, st.excepts, st.totals] 31)) :=
  ⟨(Below.refl _ w).alloc (Nat.le_refl _) _, heap_alloc_new w _, rfl, .inl ⟨rfl, rfl⟩⟩
theorem GI.cells {T : Nat} {st : St9} {w : World} {n : Nat} {xs : List Value} {mv : Value} {wr : World} (h : GI T st w n xs mv wr) : wr.cell? ⟨w.heap.size, 0, none⟩ = some st.title ∧ wr.cell? ⟨w.heap.size, 1, none⟩ = some st.kinds ∧ wr.cell? ⟨w.heap.size, 2, none⟩ = some st.members ∧ wr.cell? ⟨w.heap.size, 3, none⟩ = some st.preds ∧ wr.cell? ⟨w.heap.size, 4, none⟩ = some st.classes ∧ wr.cell? ⟨w.heap.size, 5, none⟩ = some st.sources ∧ wr.cell? ⟨w.heap.size, 6, none⟩ = some st.rules ∧ wr.cell? ⟨w.heap.size, 7, none⟩ = some st.excepts ∧ wr.cell? ⟨w.heap.size, 8, none⟩ = some st.totals :=
  ⟨cell_of_row wr _ 0 _ _ _ h.box, cell_of_row wr _ 1 _ _ _ h.box, cell_of_row wr _ 2 _ _ _ h.box, cell_of_row wr _ 3 _ _ _ h.box, cell_of_row wr _ 4 _ _ _ h.box, cell_of_row wr _ 5 _ _ _ h.box, cell_of_row wr _ 6 _ _ _ h.box, cell_of_row wr _ 7 _ _ _ h.box, cell_of_row wr _ 8 _ _ _ h.box⟩
theorem owns_down {w : World} {b b' e k n : Nat} {u : Value} {xs : List Value} (h : w.ownsRow b e k u n xs) (hb : b' ≤ b) : w.ownsRow b' e k u n xs := by
  obtain ⟨h1, h2⟩ := h
  refine ⟨h1, ?_⟩
  rcases h2 with h2 | ⟨g, cap, cur, e, hg, h4⟩
  · exact .inl h2
  · exact .inr ⟨g, cap, cur, e, Nat.le_trans hb hg, h4⟩
theorem strs_snoc {α : Type} {f : α → Bytes} {l : List α} {i : Nat} {x : α} (hx : l[i]? = some x) : strs ((l.take (i + 1)).map f) = strs ((l.take i).map f) ++ [.string ⟨(f x).toArray⟩] := by
  rw [take_snoc hx]
  unfold strs str
  simp
theorem infoO : (Tryz.prog.info? 53).map (fun i => (i.zero, i.size, i.bytes)) = some (some (.int .i64 0), 1, 8) := by kernel_rfl
theorem ints_snoc {α : Type} {f : α → Int} {l : List α} {i : Nat} {x : α} (hx : l[i]? = some x) : ints ((l.take (i + 1)).map f) = ints ((l.take i).map f) ++ [.int .i64 (f x)] := by
  rw [take_snoc hx]
  unfold ints
  simp
/-- Is a member of that kind? -/
def ofP (kinds : List Bytes) (k : Int) (m : Bytes × Bytes) : Bool := decide (m.2 ∈ kinds) && decide ((posB kinds m.2 : Int) = k)
def ofL (kinds : List Bytes) (k : Int) (l : List (Bytes × Bytes)) : List Int := (l.zipIdx.filter fun x => ofP kinds k x.1).map fun x => (x.2 : Int)
theorem ofL_step {kinds : List Bytes} {k : Int} {l : List (Bytes × Bytes)} {i : Nat} {x : Bytes × Bytes} (hx : l[i]? = some x) : ofL kinds k (l.take (i + 1)) = ofL kinds k (l.take i) ++ (if ofP kinds k x then [(i : Int)] else []) := by
  have hi : i < l.length := by
    apply Classical.byContradiction
    intro hn
    rw [List.getElem?_eq_none (by omega)] at hx
    cases hx
  have hl : (l.take i).length = i := by simp; omega
  unfold ofL
  rw [take_snoc hx, List.zipIdx_append, List.filter_append, List.map_append, hl]
  congr 1
  by_cases h : ofP kinds k x = true <;> simp [h, List.zipIdx]
theorem ofL_le {kinds : List Bytes} {k : Int} {l : List (Bytes × Bytes)} (i : Nat) : (ofL kinds k (l.take i)).length ≤ i := by
  unfold ofL
  rw [List.length_map]
  refine Nat.le_trans (List.length_filter_le _ _) ?_
  simp
  omega
/-- Of each predicate its class. -/
def clsL (cs : List (List Bytes)) (l : List PredM) : List Int := l.map fun p => clsF 0 cs p.name
end Go.Proofs.YtfnobccminhjpaaGreat
