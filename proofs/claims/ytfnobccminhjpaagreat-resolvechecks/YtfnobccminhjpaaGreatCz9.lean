/- Things in memory whose blocks lie in a set; a row of such things that grows. By program (tools/gen8/cz9.py). -/
import Derived.Test.YtfnobccminhjpaaGreatTotal8
namespace Go.Proofs.YtfnobccminhjpaaGreat
open Go.RowKit Go.Shelf Go.Maps Go.WideMaps

/-- A list of things that may be read, in blocks of Z. -/
def RZ {α : Type} (Z : Nat → Prop) (k : Nat) (c : World → α → List Value → Prop) (w : World) (l : List α) (v : Value) : Prop :=
  ∃ a cap, v = .slice a l.length cap ∧ l.length ≤ cap ∧ l.length ≤ 140737488351232 ∧ ∀ i x, l[i]? = some x → ∃ g o xs, a = some ⟨g, o, none⟩ ∧ Z g ∧ xs.length = k ∧ (∀ j u, xs[j]? = some u → w.cell? ⟨g, o + i * k + j, none⟩ = some u) ∧ c w x xs
/-- Blocks of Z stay, and are of Z'. -/
def Ag (Z Z' : Nat → Prop) (w w' : World) : Prop := ∀ g, Z g → Z' g ∧ w'.heap[g]? = w.heap[g]?
section
variable {α : Type} {Z Z' : Nat → Prop} {N k : Nat} {c c' : World → α → List Value → Prop} {w w' : World} {l : List α} {v : Value}
theorem RZ.keep (h : RZ Z k c w l v) (hb : Ag Z Z' w w') (hc : ∀ a xs, c w a xs → c' w' a xs) : RZ Z' k c' w' l v := by
  obtain ⟨a, cap, e, hcap, hl, h⟩ := h
  refine ⟨a, cap, e, hcap, hl, fun i x hi => ?_⟩
  obtain ⟨g, o, xs, ea, hg, hxs, hcell, hx⟩ := h i x hi
  exact ⟨g, o, xs, ea, (hb g hg).1, hxs, fun j u hu => (World.cell?_of_block (hb g hg).2).trans (hcell j u hu), hc _ _ hx⟩
theorem RZ.rr (h : RZ Z k c w l v) (hz : ∀ g, Z g → g < N) (hc : ∀ a xs, c w a xs → c' w a xs) : RR N k c' w l v := by
  obtain ⟨a, cap, e, hcap, hl, h⟩ := h
  refine ⟨a, cap, e, hcap, hl, fun i x hi => ?_⟩
  obtain ⟨g, o, xs, ea, hg, hxs, hcell, hx⟩ := h i x hi
  exact ⟨g, o, xs, ea, hz g hg, hxs, hcell, hc _ _ hx⟩
theorem RZ.form (h : RZ Z k c w l v) : ∃ a cap, v = .slice a l.length cap := by
  obtain ⟨a, cap, e, _⟩ := h
  exact ⟨a, cap, e⟩
theorem RZ.of_owns {b : Nat} {e : TypeId} {xs : List Value} (h : w.ownsRow b e k v l.length xs) (hz : ∀ g, v.ownBlock = some g → Z g) (hl : l.length ≤ 140737488351232) (hc : ∀ i x, l[i]? = some x → c w x ((xs.drop (i * k)).take k)) : RZ Z k c w l v := by
  obtain ⟨h1, h2⟩ := h
  rcases h2 with ⟨rfl, h0⟩ | ⟨g, cap, cur, rfl, _, hg, hcap, _, hcs, htk⟩
  · have : l = [] := List.eq_nil_of_length_eq_zero h0
    subst this
    exact ⟨_, _, rfl, Nat.le_refl _, Nat.zero_le _, fun i x hi => by simp at hi⟩
  · refine ⟨_, cap, rfl, hcap, hl, fun i x hi => ⟨g, 0, (xs.drop (i * k)).take k, rfl, hz g rfl, ?_, ?_, hc i x hi⟩⟩
    · have hil : i < l.length := by
        apply Classical.byContradiction
        intro hn
        rw [List.getElem?_eq_none (by omega)] at hi
        cases hi
      have : (i + 1) * k ≤ l.length * k := Nat.mul_le_mul_right k hil
      rw [Nat.add_mul] at this
      simp [h1]
      omega
    · intro j u hu
      rw [List.getElem?_take] at hu
      split at hu
      · rw [List.getElem?_drop, ← htk, List.getElem?_take] at hu
        split at hu
        · rw [Nat.zero_add, cell_of_row w g _ _ _ _ hg, ← Array.getElem?_toList]
          exact hu
        · cases hu
      · cases hu
end
abbrev StrsZ (Z : Nat → Prop) (w : World) (l : List Bytes) (v : Value) : Prop := RZ Z 1 cS w l v
abbrev MoneysZ (Z : Nat → Prop) (w : World) (l : List Int) (v : Value) : Prop := RZ Z 1 cI w l v
def cTermZ (Z : Nat → Prop) (w : World) (a : TermM) (xs : List Value) : Prop := ∃ av, xs = [.int .i64 a.coef, str a.pred, av, .int .i64 a.value] ∧ a.pred.length ≤ maxLen ∧ StrsZ Z w a.args av
abbrev TermsZ (Z : Nat → Prop) (w : World) (l : List TermM) (v : Value) : Prop := RZ Z 4 (cTermZ Z) w l v
def cLitZ (Z : Nat → Prop) (w : World) (a : LitM) (xs : List Value) : Prop := ∃ av, xs = [.bool a.neg, str a.pred, av, .bool a.hasValue, .int .i64 a.value] ∧ a.pred.length ≤ maxLen ∧ StrsZ Z w a.args av
def cGuardZ (Z : Nat → Prop) (w : World) (a : GuardM) (xs : List Value) : Prop := ∃ lv rv, xs = [lv, .int .i64 a.op, rv] ∧ TermsZ Z w a.left lv ∧ TermsZ Z w a.right rv
def cPremZ (Z : Nat → Prop) (w : World) (a : PremM) (xs : List Value) : Prop :=
  ∃ ls gs, xs = .int .i64 a.kind :: ls ++ gs ++ [str a.a, str a.b] ∧ cLitZ Z w a.lit ls ∧ cGuardZ Z w a.guard gs ∧ a.a.length ≤ maxLen ∧ a.b.length ≤ maxLen
abbrev PremsZ (Z : Nat → Prop) (w : World) (l : List PremM) (v : Value) : Prop := RZ Z 11 (cPremZ Z) w l v
def cRuleZ (Z : Nat → Prop) (w : World) (a : RuleM) (xs : List Value) : Prop :=
  ∃ bv ls, xs = [str a.name, str a.source, .int .i64 a.day, .int .i64 a.till, bv, .int .i64 a.arrow] ++ ls ∧ a.name.length ≤ maxLen ∧ a.source.length ≤ maxLen ∧ PremsZ Z w a.body bv ∧ cLitZ Z w a.head ls
def cPredZ (Z : Nat → Prop) (w : World) (a : PredM) (xs : List Value) : Prop := ∃ kv vv, xs = [str a.name, .int .i64 a.sort, kv, vv] ∧ a.name.length ≤ maxLen ∧ StrsZ Z w a.kinds kv ∧ MoneysZ Z w a.values vv
def cClassZ (Z : Nat → Prop) (w : World) (a : List Bytes) (xs : List Value) : Prop := ∃ cv, xs = [cv] ∧ StrsZ Z w a cv
def cTotalZ (Z : Nat → Prop) (w : World) (a : TotalM) (xs : List Value) : Prop := ∃ pv, xs = [str a.name, str a.kind, pv, .bool a.hasCap, .int .i64 a.cap] ∧ a.name.length ≤ maxLen ∧ a.kind.length ≤ maxLen ∧ StrsZ Z w a.preds pv
section
variable {Z Z' : Nat → Prop} {w w' : World} (hb : Ag Z Z' w w')
include hb
theorem StrsZ.keep {l : List Bytes} {v : Value} (h : StrsZ Z w l v) : StrsZ Z' w' l v := RZ.keep h hb fun _ _ h => h
theorem MoneysZ.keep {l : List Int} {v : Value} (h : MoneysZ Z w l v) : MoneysZ Z' w' l v := RZ.keep h hb fun _ _ h => h
theorem cTermZ.keep {a : TermM} {xs : List Value} (h : cTermZ Z w a xs) : cTermZ Z' w' a xs := by obtain ⟨av, h1, h2, h3⟩ := h; exact ⟨av, h1, h2, h3.keep hb⟩
theorem TermsZ.keep {l : List TermM} {v : Value} (h : TermsZ Z w l v) : TermsZ Z' w' l v := RZ.keep h hb fun _ _ h => h.keep hb
theorem cLitZ.keep {a : LitM} {xs : List Value} (h : cLitZ Z w a xs) : cLitZ Z' w' a xs := by obtain ⟨av, h1, h2, h3⟩ := h; exact ⟨av, h1, h2, h3.keep hb⟩
theorem cGuardZ.keep {a : GuardM} {xs : List Value} (h : cGuardZ Z w a xs) : cGuardZ Z' w' a xs := by obtain ⟨lv, rv, h1, h2, h3⟩ := h; exact ⟨lv, rv, h1, TermsZ.keep hb h2, TermsZ.keep hb h3⟩
theorem cPremZ.keep {a : PremM} {xs : List Value} (h : cPremZ Z w a xs) : cPremZ Z' w' a xs := by obtain ⟨ls, gs, h1, h2, h3, h4⟩ := h; exact ⟨ls, gs, h1, h2.keep hb, h3.keep hb, h4⟩
theorem PremsZ.keep {l : List PremM} {v : Value} (h : PremsZ Z w l v) : PremsZ Z' w' l v := RZ.keep h hb fun _ _ h => h.keep hb
theorem cRuleZ.keep {a : RuleM} {xs : List Value} (h : cRuleZ Z w a xs) : cRuleZ Z' w' a xs := by obtain ⟨bv, ls, h1, h2, h3, h4, h5⟩ := h; exact ⟨bv, ls, h1, h2, h3, PremsZ.keep hb h4, h5.keep hb⟩
theorem cPredZ.keep {a : PredM} {xs : List Value} (h : cPredZ Z w a xs) : cPredZ Z' w' a xs := by obtain ⟨kv, vv, h1, h2, h3, h4⟩ := h; exact ⟨kv, vv, h1, h2, StrsZ.keep hb h3, MoneysZ.keep hb h4⟩
theorem cClassZ.keep {a : List Bytes} {xs : List Value} (h : cClassZ Z w a xs) : cClassZ Z' w' a xs := by obtain ⟨cv, h1, h2⟩ := h; exact ⟨cv, h1, StrsZ.keep hb h2⟩
theorem cTotalZ.keep {a : TotalM} {xs : List Value} (h : cTotalZ Z w a xs) : cTotalZ Z' w' a xs := by obtain ⟨pv, h1, h2, h3, h4⟩ := h; exact ⟨pv, h1, h2, h3, StrsZ.keep hb h4⟩
end
section
variable {Z : Nat → Prop} {N : Nat} {w : World} (hz : ∀ g, Z g → g < N)
include hz
theorem StrsZ.rr {l : List Bytes} {v : Value} (h : StrsZ Z w l v) : Strs N w l v := RZ.rr h hz fun _ _ h => h
theorem MoneysZ.rr {l : List Int} {v : Value} (h : MoneysZ Z w l v) : Moneys N w l v := RZ.rr h hz fun _ _ h => h
theorem cTermZ.rr {a : TermM} {xs : List Value} (h : cTermZ Z w a xs) : cTerm N w a xs := by obtain ⟨av, h1, h2, h3⟩ := h; exact ⟨av, h1, h2, StrsZ.rr hz h3⟩
theorem TermsZ.rr {l : List TermM} {v : Value} (h : TermsZ Z w l v) : Terms N w l v := RZ.rr h hz fun _ _ h => h.rr hz
theorem cLitZ.rr {a : LitM} {xs : List Value} (h : cLitZ Z w a xs) : cLit N w a xs := by obtain ⟨av, h1, h2, h3⟩ := h; exact ⟨av, h1, h2, StrsZ.rr hz h3⟩
theorem cGuardZ.rr {a : GuardM} {xs : List Value} (h : cGuardZ Z w a xs) : cGuard N w a xs := by obtain ⟨lv, rv, h1, h2, h3⟩ := h; exact ⟨lv, rv, h1, TermsZ.rr hz h2, TermsZ.rr hz h3⟩
theorem cPremZ.rr {a : PremM} {xs : List Value} (h : cPremZ Z w a xs) : cPrem N w a xs := by obtain ⟨ls, gs, h1, h2, h3, h4⟩ := h; exact ⟨ls, gs, h1, h2.rr hz, h3.rr hz, h4⟩
theorem PremsZ.rr {l : List PremM} {v : Value} (h : PremsZ Z w l v) : Prems N w l v := RZ.rr h hz fun _ _ h => h.rr hz
theorem cRuleZ.rr {a : RuleM} {xs : List Value} (h : cRuleZ Z w a xs) : cRule N w a xs := by obtain ⟨bv, ls, h1, h2, h3, h4, h5⟩ := h; exact ⟨bv, ls, h1, h2, h3, PremsZ.rr hz h4, h5.rr hz⟩
theorem cPredZ.rr {a : PredM} {xs : List Value} (h : cPredZ Z w a xs) : cPred N w a xs := by obtain ⟨kv, vv, h1, h2, h3, h4⟩ := h; exact ⟨kv, vv, h1, h2, StrsZ.rr hz h3, MoneysZ.rr hz h4⟩
theorem cClassZ.rr {a : List Bytes} {xs : List Value} (h : cClassZ Z w a xs) : cClass N w a xs := by obtain ⟨cv, h1, h2⟩ := h; exact ⟨cv, h1, StrsZ.rr hz h2⟩
theorem cTotalZ.rr {a : TotalM} {xs : List Value} (h : cTotalZ Z w a xs) : cTotal N w a xs := by obtain ⟨pv, h1, h2, h3, h4⟩ := h; exact ⟨pv, h1, h2, h3, StrsZ.rr hz h4⟩
end

/-- A block made between two worlds. -/
abbrev Nw (w w' : World) (g : Nat) : Prop := w.heap.size ≤ g ∧ g < w'.heap.size
/-- A row of things that grows where nothing stood before; its things' own lists lie beside it. -/
structure Gz {α : Type} (T k : Nat) (c : (Nat → Prop) → World → α → List Value → Prop) (w : World) (l : List α) (n : Nat) (mv : Value) (wr : World) : Prop where
  low : Below w.heap.size w wr
  len : l.length = n
  body : ∃ (Z : Nat → Prop) (xs : List Value), wr.ownsRow w.heap.size T k mv n xs ∧ (∀ g, Z g → w.heap.size ≤ g ∧ g < wr.heap.size ∧ mv.ownBlock ≠ some g) ∧ ∀ i x, l[i]? = some x → c Z wr x ((xs.drop (i * k)).take k)
theorem Gz.nil {α : Type} {T k : Nat} {c : (Nat → Prop) → World → α → List Value → Prop} {w : World} : Gz T k c w [] 0 (.slice none 0 0) w :=
  ⟨Below.refl _ _, rfl, fun _ => False, [], ⟨by simp, .inl ⟨rfl, rfl⟩⟩, fun _ h => h.elim, fun i x hi => by simp at hi⟩
theorem Gz.grow {α : Type} {T k : Nat} {c : (Nat → Prop) → World → α → List Value → Prop} {w : World} {l : List α} {n : Nat} {mv : Value} {wr wd w4 : World} {Z : Nat → Prop} {xs ys : List Value} {x : α} {ob : Obj} {g4 cap4 : Nat}
    (hc : ∀ Z Z' w w' x xs, Ag Z Z' w w' → c Z w x xs → c Z' w' x xs) (hlow : Below w.heap.size w wr) (hlen : l.length = n) (hrow : wr.ownsRow w.heap.size T k mv n xs) (hz : ∀ g, Z g → w.heap.size ≤ g ∧ g < wr.heap.size ∧ mv.ownBlock ≠ some g) (hold : ∀ i x, l[i]? = some x → c Z wr x ((xs.drop (i * k)).take k))
    (hb : Below wr.heap.size wr wd) (hnew : c (Nw wr wd) wd x ys) (hk : ys.length = k) (hown : w4.ownsRow w.heap.size T k (.slice (some ⟨g4, 0, none⟩) (n + 1) cap4) (n + 1) (xs ++ ys))
    (hg : (mv.ownBlock = some g4 ∧ (wd.alloc ob).grownBy w4 (some g4)) ∨ (g4 = wd.heap.size + 1 ∧ (wd.alloc ob).grownBy w4 none)) : Gz T k c w (l ++ [x]) (n + 1) (.slice (some ⟨g4, 0, none⟩) (n + 1) cap4) w4 := by
  have hs := hb.size
  have hls := hlow.size
  have hmv : ∀ g, mv.ownBlock = some g → w.heap.size ≤ g ∧ g < wr.heap.size := fun g e => hrow.lt g e
  have hf : Fr (fun k => w.heap.size ≤ k) wd w4 := grown_fr rfl hg fun g e => (hmv g e).1
  have hs4 := hf.size
  have hx : xs.length = n * k := hrow.1
  have ag1 : Ag Z (fun g => Z g ∨ Nw wr wd g) wr w4 := fun g hZ => ⟨.inl hZ, by
    obtain ⟨h1, h2, h3⟩ := hz g hZ
    rw [grown_old rfl hg (by omega) h3, hb.block g h2]⟩
  have ag2 : Ag (Nw wr wd) (fun g => Z g ∨ Nw wr wd g) wd w4 := fun g hZ => ⟨.inr hZ, grown_old rfl hg hZ.2 fun e => by have := (hmv g e).2; have := hZ.1; omega⟩
  refine ⟨hlow.trans ((hb.mono hls).trans (hf.below fun k hk => ⟨by omega, by omega⟩)), by simp [hlen], fun g => Z g ∨ Nw wr wd g, xs ++ ys, hown, ?_, ?_⟩
  · intro g hZ
    simp only [Value.ownBlock, ne_eq, Option.some.injEq]
    rcases hZ with hZ | hZ
    · obtain ⟨h1, h2, h3⟩ := hz g hZ
      refine ⟨h1, by omega, fun e => ?_⟩
      rcases hg with ⟨h4, _⟩ | ⟨h4, _⟩
      · exact h3 (by rw [h4, e])
      · omega
    · obtain ⟨h1, h2⟩ := hZ
      refine ⟨by omega, by omega, fun e => ?_⟩
      rcases hg with ⟨h4, _⟩ | ⟨h4, _⟩
      · have := (hmv _ h4).2; omega
      · omega
  · intro i y hi
    by_cases hin : i < n
    · rw [List.getElem?_append_left (by omega)] at hi
      have h1 : (i + 1) * k ≤ n * k := Nat.mul_le_mul_right k hin
      rw [Nat.add_mul] at h1
      rw [List.drop_append_of_le_length (by omega), List.take_append_of_le_length (by simp; omega)]
      exact hc _ _ _ _ _ _ ag1 (hold i y hi)
    · have hil : i = n := by
        have : i < (l ++ [x]).length := by
          apply Classical.byContradiction
          intro hn
          rw [List.getElem?_eq_none (by omega)] at hi
          cases hi
        simp at this
        omega
      subst hil
      rw [List.getElem?_append_right (by omega)] at hi
      simp [hlen] at hi
      subst hi
      rw [← hx, List.drop_left, ← hk, List.take_length]
      exact hc _ _ _ _ _ _ ag2 hnew
theorem Gz.done {α : Type} {T k : Nat} {c : (Nat → Prop) → World → α → List Value → Prop} {w : World} {l : List α} {n : Nat} {mv : Value} {wr : World} (hc : ∀ Z Z' w w' x xs, Ag Z Z' w w' → c Z w x xs → c Z' w' x xs) (h : Gz T k c w l n mv wr) (hl : l.length ≤ 140737488351232) : RZ (Nw w wr) k (c (Nw w wr)) wr l mv := by
  obtain ⟨_, hlen, Z, xs, hrow, hz, hold⟩ := h
  subst hlen
  exact RZ.of_owns hrow (fun g e => hrow.lt g e) hl fun i x hi => hc _ _ _ _ _ _ (fun g hZ => ⟨⟨(hz g hZ).1, (hz g hZ).2.1⟩, rfl⟩) (hold i x hi)
theorem flat_at {α : Type} {f : α → List Value} {k : Nat} : ∀ {l : List α} {i : Nat} {x : α}, (∀ x, (f x).length = k) → l[i]? = some x → ((l.flatMap f).drop (i * k)).take k = f x
  | [], i, x, _, hi => by simp at hi
  | y :: l, 0, x, hf, hi => by
    simp at hi
    subst hi
    rw [Nat.zero_mul, List.drop_zero, List.flatMap_cons, List.take_append_of_le_length (by rw [hf]; exact Nat.le_refl _), ← hf y, List.take_length]
  | y :: l, i + 1, x, hf, hi => by
    rw [List.flatMap_cons, Nat.add_mul, Nat.one_mul, Nat.add_comm, ← List.drop_drop, ← hf y, List.drop_left, hf y]
    exact flat_at hf (by simpa using hi)
theorem RR.mem {α : Type} {N k : Nat} {c : World → α → List Value → Prop} {w : World} {l : List α} {v : Value} (h : RR N k c w l v) {i : Nat} {x : α} (hi : l[i]? = some x) : ∃ xs, c w x xs := by
  obtain ⟨_, _, _, _, _, h⟩ := h
  obtain ⟨_, _, xs, _, _, _, _, hx⟩ := h i x hi
  exact ⟨xs, hx⟩
theorem RR.lim {α : Type} {N k : Nat} {c : World → α → List Value → Prop} {w : World} {l : List α} {v : Value} (h : RR N k c w l v) : l.length ≤ 140737488351232 := by
  obtain ⟨_, _, _, _, h, _⟩ := h
  exact h
end Go.Proofs.YtfnobccminhjpaaGreat
