import Derived.Test.YtbpphlmakmeoaaaGreatDoorReadAll
namespace Go.Proofs.YtbpphlmakmeoaaaGreatDoor.Sy
open Go.RowKit
def Kp (T : List Nat) (Z : Nat → Prop) (w w' : World) : Prop := ∀ g cur t, Z g → w.heap[g]? = some (.cells cur t (0, 0)) → t ∈ T → w'.heap[g]? = some (.cells cur t (0, 0))
theorem Kp.sub {T T' : List Nat} {Z Z' : Nat → Prop} {w w' : World} (h : Kp T' Z' w w') (ht : ∀ t ∈ T, t ∈ T') (hz : ∀ g, Z g → Z' g) : Kp T Z w w' :=
 fun g cur t hg hb hm => h g cur t (hz g hg) hb (ht t hm)
def Row (Z : Nat → Prop) (e k : Nat) (w : World) (v : Value) (n : Nat) (xs : List Value) : Prop := w.ownsRow 0 e k v n xs ∧ ∀ g, v.ownBlock = some g → Z g
theorem Row.keep {Z : Nat → Prop} {e k : Nat} {w w' : World} {v : Value} {n : Nat} {xs : List Value} {T : List Nat} (h : Row Z e k w v n xs) (hk : Kp T Z w w') (he : e ∈ T) : Row Z e k w' v n xs := by
 refine ⟨⟨h.1.1, ?_⟩, h.2⟩
 rcases h.1.2 with h1 | ⟨g, Ab, Aa, h1, h2, h3, h4⟩
 · exact .inl h1
 · exact .inr ⟨g, Ab, Aa, h1, h2, hk g Aa e (h.2 g (by rw [h1]; rfl)) h3 he, h4⟩
theorem Row.mono {Z Z' : Nat → Prop} {e k : Nat} {w : World} {v : Value} {n : Nat} {xs : List Value} (h : Row Z e k w v n xs) (hz : ∀ g, Z g → Z' g) : Row Z' e k w v n xs := ⟨h.1, fun g hg => hz g (h.2 g hg)⟩
def Rows {α : Type} (Z : Nat → Prop) (e k : Nat) (c : World → α → List Value → Prop) (w : World) (l : List α) (v : Value) : Prop :=
 ∃ xs, Row Z e k w v l.length xs ∧ ∀ i a, l[i]? = some a → c w a ((xs.drop (i * k)).take k)
section
variable {α : Type} {Z Z' : Nat → Prop} {e k : Nat} {c c' : World → α → List Value → Prop} {w w' : World} {l : List α} {v : Value}
theorem Rows.keep {T : List Nat} (h : Rows Z e k c w l v) (hk : Kp T Z w w') (he : e ∈ T) (hc : ∀ a xs, c w a xs → c w' a xs) : Rows Z e k c w' l v := by
 obtain ⟨xs, h1, h2⟩ := h
 exact ⟨xs, h1.keep hk he, fun i a hi => hc _ _ (h2 i a hi)⟩
theorem Rows.mono (h : Rows Z e k c w l v) (hz : ∀ g, Z g → Z' g) (hc : ∀ a xs, c w a xs → c' w a xs) : Rows Z' e k c' w l v := by
 obtain ⟨xs, h1, h2⟩ := h
 exact ⟨xs, h1.mono hz, fun i a hi => hc _ _ (h2 i a hi)⟩
theorem Rows.nil (Z : Nat → Prop) (e k : Nat) (c : World → α → List Value → Prop) (w : World) : Rows Z e k c w [] (.slice none 0 0) :=
 ⟨[], ⟨World.ownsRow_nil w 0 e k, fun g h => by cases h⟩, fun i a h => by simp at h⟩
theorem Rows.snoc {xs news : List Value} {a : α} (hr : Row Z e k w v (l.length + 1) (xs ++ news)) (hx : xs.length = l.length * k) (hn : news.length = k)
    (ho : ∀ i a, l[i]? = some a → c w a ((xs.drop (i * k)).take k)) (ha : c w a news) : Rows Z e k c w (l ++ [a]) v := by
 refine ⟨xs ++ news, by simpa using hr, fun i b hi => ?_⟩
 by_cases h : i < l.length
 · rw [List.getElem?_append_left h] at hi
   have Aa : i * k + k ≤ l.length * k := by rw [← Nat.succ_mul]; exact Nat.mul_le_mul_right k h
   rw [List.drop_append_of_le_length (by omega), List.take_append_of_le_length (by simp; omega)]
   exact ho i b hi
 · rw [List.getElem?_append_right (by omega)] at hi
   have : i = l.length := by
    have := (List.getElem?_eq_some_iff.1 hi).1
    simp at this
    omega
   subst this
   simp at hi
   subst hi
   rw [← hx, List.drop_left, ← hn, List.take_length]
   exact ha
end
def cS (_ : World) (a : ee) (xs : List Value) : Prop := xs = [.string ⟨a.toArray⟩]
def cI (_ : World) (a : Int) (xs : List Value) : Prop := xs = [.int .i64 a]
def cM (_ : World) (a : ee × ee) (xs : List Value) : Prop := xs = [.string ⟨a.1.toArray⟩, .string ⟨a.2.toArray⟩]
def i8 (_ : World) (a : ee × Int) (xs : List Value) : Prop := xs = [.string ⟨a.1.toArray⟩, .int .i64 a.2]
abbrev Strs (Z : Nat → Prop) (w : World) (l : List ee) (v : Value) : Prop := Rows Z 9 1 cS w l v
abbrev Moneys (Z : Nat → Prop) (w : World) (l : List Int) (v : Value) : Prop := Rows Z 45 1 cI w l v
def cTerm (Z : Nat → Prop) (w : World) (a : ft) (xs : List Value) : Prop :=
 ∃ av, xs = [.int .i64 a.coef, .string ⟨a.pred.toArray⟩, av, .int .i64 a.value] ∧ Strs Z w a.args av
abbrev Terms (Z : Nat → Prop) (w : World) (l : List ft) (v : Value) : Prop := Rows Z 192 4 (cTerm Z) w l v
def cPrem (Z : Nat → Prop) (w : World) (a : f9) (xs : List Value) : Prop :=
 ∃ av lv rv, xs = [.int .i64 a.kind, .bool a.lit.neg, .string ⟨a.lit.pred.toArray⟩, av, .bool a.lit.hasValue, .int .i64 a.lit.value, lv, .int .i64 a.guard.op, rv, .string ⟨a.a.toArray⟩, .string ⟨a.b.toArray⟩] ∧
  Strs Z w a.lit.args av ∧ Terms Z w a.guard.left lv ∧ Terms Z w a.guard.right rv
abbrev Prems (Z : Nat → Prop) (w : World) (l : List f9) (v : Value) : Prop := Rows Z 108 11 (cPrem Z) w l v
def cRule (Z : Nat → Prop) (w : World) (a : gI) (xs : List Value) : Prop :=
 ∃ bv av, xs = [.string ⟨a.name.toArray⟩, .string ⟨a.source.toArray⟩, .int .i64 a.day, .int .i64 a.till, bv, .int .i64 a.arrow, .bool a.head.neg, .string ⟨a.head.pred.toArray⟩, av, .bool a.head.hasValue, .int .i64 a.head.value] ∧
  Prems Z w a.body bv ∧ Strs Z w a.head.args av
def cPred (Z : Nat → Prop) (w : World) (a : fZ) (xs : List Value) : Prop :=
 ∃ kv vv, xs = [.string ⟨a.name.toArray⟩, .int .i64 a.sort, kv, vv] ∧ Strs Z w a.kinds kv ∧ Moneys Z w a.values vv
def cClass (Z : Nat → Prop) (w : World) (a : List ee) (xs : List Value) : Prop := ∃ cv, xs = [cv] ∧ Strs Z w a cv
def cTotal (Z : Nat → Prop) (w : World) (a : gx) (xs : List Value) : Prop :=
 ∃ pv, xs = [.string ⟨a.name.toArray⟩, .string ⟨a.kind.toArray⟩, pv, .bool a.hasCap, .int .i64 a.cap] ∧ Strs Z w a.preds pv
def ei : List Nat := [9, 45, 192, 108]
section
variable {Z Z' : Nat → Prop} {w w' : World}
theorem Strs.keep {T : List Nat} {l : List ee} {v : Value} (h : Strs Z w l v) (hk : Kp T Z w w') (ht : 9 ∈ T) : Strs Z w' l v := Rows.keep h hk ht fun _ _ h => h
theorem Moneys.keep {T : List Nat} {l : List Int} {v : Value} (h : Moneys Z w l v) (hk : Kp T Z w w') (ht : 45 ∈ T) : Moneys Z w' l v := Rows.keep h hk ht fun _ _ h => h
theorem cTerm.keep {T : List Nat} {a : ft} {xs : List Value} (h : cTerm Z w a xs) (hk : Kp T Z w w') (ht : 9 ∈ T) : cTerm Z w' a xs := by
 obtain ⟨av, h1, h2⟩ := h
 exact ⟨av, h1, h2.keep hk ht⟩
theorem Terms.keep {T : List Nat} {l : List ft} {v : Value} (h : Terms Z w l v) (hk : Kp T Z w w') (ht : 9 ∈ T) (ht' : 192 ∈ T) : Terms Z w' l v := Rows.keep h hk ht' fun _ _ h => h.keep hk ht
theorem cPrem.keep {T : List Nat} {a : f9} {xs : List Value} (h : cPrem Z w a xs) (hk : Kp T Z w w') (ht : 9 ∈ T) (ht' : 192 ∈ T) : cPrem Z w' a xs := by
 obtain ⟨av, lv, rv, h1, h2, h3, h4⟩ := h
 exact ⟨av, lv, rv, h1, h2.keep hk ht, h3.keep hk ht ht', h4.keep hk ht ht'⟩
theorem cRule.keep {a : gI} {xs : List Value} (h : cRule Z w a xs) (hk : Kp ei Z w w') : cRule Z w' a xs := by
 obtain ⟨bv, av, h1, h2, h3⟩ := h
 exact ⟨bv, av, h1, Rows.keep h2 hk (by decide) fun _ _ h => h.keep hk (by decide) (by decide), h3.keep hk (by decide)⟩
theorem cPred.keep {a : fZ} {xs : List Value} (h : cPred Z w a xs) (hk : Kp ei Z w w') : cPred Z w' a xs := by
 obtain ⟨kv, vv, h1, h2, h3⟩ := h
 exact ⟨kv, vv, h1, h2.keep hk (by decide), h3.keep hk (by decide)⟩
theorem cClass.keep {a : List ee} {xs : List Value} (h : cClass Z w a xs) (hk : Kp ei Z w w') : cClass Z w' a xs := by
 obtain ⟨cv, h1, h2⟩ := h
 exact ⟨cv, h1, h2.keep hk (by decide)⟩
theorem cTotal.keep {a : gx} {xs : List Value} (h : cTotal Z w a xs) (hk : Kp ei Z w w') : cTotal Z w' a xs := by
 obtain ⟨cv, h1, h2⟩ := h
 exact ⟨cv, h1, h2.keep hk (by decide)⟩
theorem Strs.mono {l : List ee} {v : Value} (h : Strs Z w l v) (hz : ∀ g, Z g → Z' g) : Strs Z' w l v := Rows.mono h hz fun _ _ h => h
theorem Moneys.mono {l : List Int} {v : Value} (h : Moneys Z w l v) (hz : ∀ g, Z g → Z' g) : Moneys Z' w l v := Rows.mono h hz fun _ _ h => h
theorem cTerm.mono {a : ft} {xs : List Value} (h : cTerm Z w a xs) (hz : ∀ g, Z g → Z' g) : cTerm Z' w a xs := by
 obtain ⟨av, h1, h2⟩ := h
 exact ⟨av, h1, h2.mono hz⟩
theorem Terms.mono {l : List ft} {v : Value} (h : Terms Z w l v) (hz : ∀ g, Z g → Z' g) : Terms Z' w l v := Rows.mono h hz fun _ _ h => h.mono hz
theorem cPrem.mono {a : f9} {xs : List Value} (h : cPrem Z w a xs) (hz : ∀ g, Z g → Z' g) : cPrem Z' w a xs := by
 obtain ⟨av, lv, rv, h1, h2, h3, h4⟩ := h
 exact ⟨av, lv, rv, h1, h2.mono hz, h3.mono hz, h4.mono hz⟩
theorem Prems.mono {l : List f9} {v : Value} (h : Prems Z w l v) (hz : ∀ g, Z g → Z' g) : Prems Z' w l v := Rows.mono h hz fun _ _ h => h.mono hz
theorem Prems.keep {l : List f9} {v : Value} (h : Prems Z w l v) (hk : Kp ei Z w w') : Prems Z w' l v := Rows.keep h hk (by decide) fun _ _ h => h.keep hk (by decide) (by decide)
theorem cRule.mono {a : gI} {xs : List Value} (h : cRule Z w a xs) (hz : ∀ g, Z g → Z' g) : cRule Z' w a xs := by
 obtain ⟨bv, av, h1, h2, h3⟩ := h
 exact ⟨bv, av, h1, h2.mono hz, h3.mono hz⟩
theorem cPred.mono {a : fZ} {xs : List Value} (h : cPred Z w a xs) (hz : ∀ g, Z g → Z' g) : cPred Z' w a xs := by
 obtain ⟨kv, vv, h1, h2, h3⟩ := h
 exact ⟨kv, vv, h1, h2.mono hz, h3.mono hz⟩
theorem cClass.mono {a : List ee} {xs : List Value} (h : cClass Z w a xs) (hz : ∀ g, Z g → Z' g) : cClass Z' w a xs := by
 obtain ⟨cv, h1, h2⟩ := h
 exact ⟨cv, h1, h2.mono hz⟩
theorem cTotal.mono {a : gx} {xs : List Value} (h : cTotal Z w a xs) (hz : ∀ g, Z g → Z' g) : cTotal Z' w a xs := by
 obtain ⟨cv, h1, h2⟩ := h
 exact ⟨cv, h1, h2.mono hz⟩
theorem Row.within {e k : Nat} {v : Value} {n : Nat} {xs : List Value} (h : Row Z e k w v n xs) (hz : ∀ g, g < w.heap.size → Z g → Z' g) : Row Z' e k w v n xs := ⟨h.1, fun g hg => hz g (h.1.lt g hg).2 (h.2 g hg)⟩
theorem Rows.within {α : Type} {e k : Nat} {c c' : World → α → List Value → Prop} {l : List α} {v : Value} (h : Rows Z e k c w l v) (hz : ∀ g, g < w.heap.size → Z g → Z' g) (hc : ∀ a xs, c w a xs → c' w a xs) : Rows Z' e k c' w l v := by
 obtain ⟨xs, h1, h2⟩ := h
 exact ⟨xs, h1.within hz, fun i a hi => hc _ _ (h2 i a hi)⟩
theorem Strs.within {l : List ee} {v : Value} (h : Strs Z w l v) (hz : ∀ g, g < w.heap.size → Z g → Z' g) : Strs Z' w l v := Rows.within h hz fun _ _ h => h
theorem Moneys.within {l : List Int} {v : Value} (h : Moneys Z w l v) (hz : ∀ g, g < w.heap.size → Z g → Z' g) : Moneys Z' w l v := Rows.within h hz fun _ _ h => h
theorem cTerm.within {a : ft} {xs : List Value} (h : cTerm Z w a xs) (hz : ∀ g, g < w.heap.size → Z g → Z' g) : cTerm Z' w a xs := by
 obtain ⟨av, h1, h2⟩ := h
 exact ⟨av, h1, h2.within hz⟩
theorem cPrem.within {a : f9} {xs : List Value} (h : cPrem Z w a xs) (hz : ∀ g, g < w.heap.size → Z g → Z' g) : cPrem Z' w a xs := by
 obtain ⟨av, lv, rv, h1, h2, h3, h4⟩ := h
 exact ⟨av, lv, rv, h1, h2.within hz, Rows.within h3 hz fun _ _ h => h.within hz, Rows.within h4 hz fun _ _ h => h.within hz⟩
theorem cRule.within {a : gI} {xs : List Value} (h : cRule Z w a xs) (hz : ∀ g, g < w.heap.size → Z g → Z' g) : cRule Z' w a xs := by
 obtain ⟨bv, av, h1, h2, h3⟩ := h
 exact ⟨bv, av, h1, Rows.within h2 hz fun _ _ h => h.within hz, h3.within hz⟩
theorem cPred.within {a : fZ} {xs : List Value} (h : cPred Z w a xs) (hz : ∀ g, g < w.heap.size → Z g → Z' g) : cPred Z' w a xs := by
 obtain ⟨kv, vv, h1, h2, h3⟩ := h
 exact ⟨kv, vv, h1, h2.within hz, h3.within hz⟩
theorem cClass.within {a : List ee} {xs : List Value} (h : cClass Z w a xs) (hz : ∀ g, g < w.heap.size → Z g → Z' g) : cClass Z' w a xs := by
 obtain ⟨cv, h1, h2⟩ := h
 exact ⟨cv, h1, h2.within hz⟩
theorem cTotal.within {a : gx} {xs : List Value} (h : cTotal Z w a xs) (hz : ∀ g, g < w.heap.size → Z g → Z' g) : cTotal Z' w a xs := by
 obtain ⟨cv, h1, h2⟩ := h
 exact ⟨cv, h1, h2.within hz⟩
theorem Kp.of_fq {R : Nat} {L : List fw} {N : Nat} {s : RS} {st : St9} {T : List Nat} (h : Fq R w w') (hr : Rd R L N s st w) (ht : 122 ∉ T) : Kp T Z w w' := by
 intro g Ab t _ hg hm
 have Aa : g < w.heap.size := by
  apply Classical.byContradiction
  intro hn
  rw [Array.getElem?_eq_none (by omega)] at hg
  cases hg
 rw [h.block g Aa, hg]
 rintro rfl
 obtain ⟨a, c, hb, _⟩ := hr.blk
 rw [hb] at hg
 cases hg
 exact ht hm
theorem Kp.of_below {T : List Nat} (h : Below w.heap.size w w') : Kp T Z w w' := by
 intro g Ab t _ hg _
 have Aa : g < w.heap.size := by
  apply Classical.byContradiction
  intro hn
  rw [Array.getElem?_eq_none (by omega)] at hg
  cases hg
 rw [h.block g Aa, hg]
theorem Kp.trans {w'' : World} {T : List Nat} (h : Kp T Z w w') (h' : Kp T Z w' w'') : Kp T Z w w'' := fun g cur t hz hg hm => h' g cur t hz (h g cur t hz hg hm) hm
theorem Kp.of_grown {T : List Nat} {row : Option Nat} {e : Nat} (h : w.grownBy w' row) (hr : ∀ g, row = some g → ∃ cur, w.heap[g]? = some (.cells cur e (0, 0))) (he : e ∉ T) : Kp T Z w w' := by
 intro g cur t _ hg hm
 have Ab : g < w.heap.size := by
  apply Classical.byContradiction
  intro hn
  rw [Array.getElem?_eq_none (by omega)] at hg
  cases hg
 rw [h.block g Ab, hg]
 intro Aa
 obtain ⟨cur', h'⟩ := hr g Aa.symm
 rw [hg] at h'
 cases h'
 exact he hm
end
def kg (Z : Nat → Prop) (w : World) (a : ft) (v : Value) : Prop := ∃ av, v = .agg #[.int .i64 a.coef, .string ⟨a.pred.toArray⟩, av, .int .i64 a.value] ∧ Strs Z w a.args av
def vG (Z : Nat → Prop) (w : World) (a : jQ) (v : Value) : Prop := ∃ av, v = .agg #[.bool a.neg, .string ⟨a.pred.toArray⟩, av, .bool a.hasValue, .int .i64 a.value] ∧ Strs Z w a.args av
def tK (Z : Nat → Prop) (w : World) (a : jf) (v : Value) : Prop := ∃ lv rv, v = .agg #[lv, .int .i64 a.op, rv] ∧ Terms Z w a.left lv ∧ Terms Z w a.right rv
def oR (Z : Nat → Prop) (w : World) (a : f9) (v : Value) : Prop :=
 ∃ av lv rv, v = .agg #[.int .i64 a.kind, .bool a.lit.neg, .string ⟨a.lit.pred.toArray⟩, av, .bool a.lit.hasValue, .int .i64 a.lit.value, lv, .int .i64 a.guard.op, rv, .string ⟨a.a.toArray⟩, .string ⟨a.b.toArray⟩] ∧
  Strs Z w a.lit.args av ∧ Terms Z w a.guard.left lv ∧ Terms Z w a.guard.right rv
def vW (Z : Nat → Prop) (w : World) (a : gI) (v : Value) : Prop :=
 ∃ bv av, v = .agg #[.string ⟨a.name.toArray⟩, .string ⟨a.source.toArray⟩, .int .i64 a.day, .int .i64 a.till, bv, .int .i64 a.arrow, .bool a.head.neg, .string ⟨a.head.pred.toArray⟩, av, .bool a.head.hasValue, .int .i64 a.head.value] ∧
  Prems Z w a.body bv ∧ Strs Z w a.head.args av
def lP (Z : Nat → Prop) (w : World) (a : fZ) (v : Value) : Prop := ∃ kv vv, v = .agg #[.string ⟨a.name.toArray⟩, .int .i64 a.sort, kv, vv] ∧ Strs Z w a.kinds kv ∧ Moneys Z w a.values vv
def sT (Z : Nat → Prop) (w : World) (a : gx) (v : Value) : Prop := ∃ pv, v = .agg #[.string ⟨a.name.toArray⟩, .string ⟨a.kind.toArray⟩, pv, .bool a.hasCap, .int .i64 a.cap] ∧ Strs Z w a.preds pv
def vM (_ : World) (a : ee × ee) (v : Value) : Prop := v = .agg #[.string ⟨a.1.toArray⟩, .string ⟨a.2.toArray⟩]
def D3 (_ : World) (a : ee × Int) (v : Value) : Prop := v = .agg #[.string ⟨a.1.toArray⟩, .int .i64 a.2]
def fo (w : World) (g : Nat) : Prop := w.heap.size ≤ g
end Go.Proofs.YtbpphlmakmeoaaaGreatDoor.Sy
