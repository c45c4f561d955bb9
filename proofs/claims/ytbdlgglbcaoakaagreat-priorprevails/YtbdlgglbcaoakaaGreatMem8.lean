/- How a statute lies in memory to be read, and what a resolver holds. -/
import Derived.Test.YtbdlgglbcaoakaaGreatSp
import Derived.Maps.OwnSet
import Derived.Maps.OwnOps
import Derived.Laws.Rows
import Derived.Laws.MakeOwn
import Derived.Carry
namespace Go.Proofs.YtbdlgglbcaoakaaGreat
open Go.RowKit Go.Shelf Go.Maps

def str (s : Bytes) : Value := .string ⟨s.toArray⟩
theorem str_ba (s : ByteArray) : str s.data.toList = .string s := by unfold str; congr
theorem loc_lt {w : World} {q : Nat} {o : Obj} (h : w.heap[q]? = some o) : q < w.heap.size := by
  apply Classical.byContradiction
  intro hn
  rw [Array.getElem?_eq_none (by omega)] at h
  cases h
theorem below_drewN (w : World) (q : Nat) : Below w.heap.size w (w.drewN q) := ⟨rfl, rfl, rfl, Nat.le_refl _, fun _ _ => rfl⟩
theorem loc_set {w : World} {q T i : Nat} {cs : Array Value} {v : Value} (h : w.heap[q]? = some (.cells cs T (0, 0))) : (w.setCell ⟨q, i, none⟩ v).heap[q]? = some (.cells (cs.setIfInBounds i v) T (0, 0)) := heap_setCell_same w q i cs T v h
abbrev ptr (B : Nat) : Value := .pointer (some ⟨B, 0, none⟩)

/-- A list of things that may be read: k cells a thing, in blocks below N. -/
def RR {α : Type} (N k : Nat) (c : World → α → List Value → Prop) (w : World) (l : List α) (v : Value) : Prop :=
  ∃ a cap, v = .slice a l.length cap ∧ l.length ≤ cap ∧ l.length ≤ 140737488351232 ∧ ∀ i x, l[i]? = some x → ∃ g o xs, a = some ⟨g, o, none⟩ ∧ g < N ∧ xs.length = k ∧ (∀ j u, xs[j]? = some u → w.cell? ⟨g, o + i * k + j, none⟩ = some u) ∧ c w x xs

section
variable {α : Type} {N N' k : Nat} {c c' : World → α → List Value → Prop} {w w' : World} {l : List α} {v : Value}
theorem RR.keep (h : RR N k c w l v) (hb : ∀ g, g < N → w'.heap[g]? = w.heap[g]?) (hc : ∀ a xs, c w a xs → c w' a xs) : RR N k c w' l v := by
  obtain ⟨a, cap, e, hcap, hl, h⟩ := h
  refine ⟨a, cap, e, hcap, hl, fun i x hi => ?_⟩
  obtain ⟨g, o, xs, ea, hg, hxs, hcell, hx⟩ := h i x hi
  exact ⟨g, o, xs, ea, hg, hxs, fun j u hu => (World.cell?_of_block (hb g hg)).trans (hcell j u hu), hc _ _ hx⟩
theorem RR.up (h : RR N k c w l v) (hn : N ≤ N') (hc : ∀ a xs, c w a xs → c' w a xs) : RR N' k c' w l v := by
  obtain ⟨a, cap, e, hcap, hl, h⟩ := h
  refine ⟨a, cap, e, hcap, hl, fun i x hi => ?_⟩
  obtain ⟨g, o, xs, ea, hg, hxs, hcell, hx⟩ := h i x hi
  exact ⟨g, o, xs, ea, Nat.lt_of_lt_of_le hg hn, hxs, hcell, hc _ _ hx⟩
theorem RR.form (h : RR N k c w l v) : ∃ a cap, v = .slice a l.length cap ∧ l.length ≤ cap ∧ l.length ≤ 140737488351232 := by
  obtain ⟨a, cap, e, hcap, hl, _⟩ := h
  exact ⟨a, cap, e, hcap, hl⟩
/-- The first of them. -/
theorem RR.take (h : RR N k c w l v) (n : Nat) (hn : n ≤ l.length) : ∀ a len cap, v = .slice a len cap → RR N k c w (l.take n) (.slice a n cap) := by
  rintro a len cap rfl
  obtain ⟨a', cap', e, hcap, hl, h⟩ := h
  cases e
  have hln : (l.take n).length = n := by simp; omega
  refine ⟨a, cap, by rw [hln], by rw [hln]; omega, by rw [hln]; omega, fun i x hi => ?_⟩
  rw [List.getElem?_take] at hi
  by_cases hin : i < n
  · rw [if_pos hin] at hi
    exact h i x hi
  · rw [if_neg hin] at hi; cases hi
end

def cS (_ : World) (a : Bytes) (xs : List Value) : Prop := xs = [str a] ∧ a.length ≤ maxLen
def cI (_ : World) (a : Int) (xs : List Value) : Prop := xs = [.int .i64 a]
def cM (_ : World) (a : Bytes × Bytes) (xs : List Value) : Prop := xs = [str a.1, str a.2] ∧ a.1.length ≤ maxLen ∧ a.2.length ≤ maxLen
def cSrc (_ : World) (a : Bytes × Int) (xs : List Value) : Prop := xs = [str a.1, .int .i64 a.2] ∧ a.1.length ≤ maxLen
abbrev Strs (N : Nat) (w : World) (l : List Bytes) (v : Value) : Prop := RR N 1 cS w l v
abbrev Moneys (N : Nat) (w : World) (l : List Int) (v : Value) : Prop := RR N 1 cI w l v
def cTerm (N : Nat) (w : World) (a : TermM) (xs : List Value) : Prop := ∃ av, xs = [.int .i64 a.coef, str a.pred, av, .int .i64 a.value] ∧ a.pred.length ≤ maxLen ∧ Strs N w a.args av
abbrev Terms (N : Nat) (w : World) (l : List TermM) (v : Value) : Prop := RR N 4 (cTerm N) w l v
def cLit (N : Nat) (w : World) (a : LitM) (xs : List Value) : Prop := ∃ av, xs = [.bool a.neg, str a.pred, av, .bool a.hasValue, .int .i64 a.value] ∧ a.pred.length ≤ maxLen ∧ Strs N w a.args av
def cGuard (N : Nat) (w : World) (a : GuardM) (xs : List Value) : Prop := ∃ lv rv, xs = [lv, .int .i64 a.op, rv] ∧ Terms N w a.left lv ∧ Terms N w a.right rv
def cPrem (N : Nat) (w : World) (a : PremM) (xs : List Value) : Prop :=
  ∃ ls gs, xs = .int .i64 a.kind :: ls ++ gs ++ [str a.a, str a.b] ∧ cLit N w a.lit ls ∧ cGuard N w a.guard gs ∧ a.a.length ≤ maxLen ∧ a.b.length ≤ maxLen
abbrev Prems (N : Nat) (w : World) (l : List PremM) (v : Value) : Prop := RR N 11 (cPrem N) w l v
def cRule (N : Nat) (w : World) (a : RuleM) (xs : List Value) : Prop :=
  ∃ bv ls, xs = [str a.name, str a.source, .int .i64 a.day, .int .i64 a.till, bv, .int .i64 a.arrow] ++ ls ∧ a.name.length ≤ maxLen ∧ a.source.length ≤ maxLen ∧ Prems N w a.body bv ∧ cLit N w a.head ls
def cPred (N : Nat) (w : World) (a : PredM) (xs : List Value) : Prop := ∃ kv vv, xs = [str a.name, .int .i64 a.sort, kv, vv] ∧ a.name.length ≤ maxLen ∧ Strs N w a.kinds kv ∧ Moneys N w a.values vv
def cClass (N : Nat) (w : World) (a : List Bytes) (xs : List Value) : Prop := ∃ cv, xs = [cv] ∧ Strs N w a cv
def cTotal (N : Nat) (w : World) (a : TotalM) (xs : List Value) : Prop := ∃ pv, xs = [str a.name, str a.kind, pv, .bool a.hasCap, .int .i64 a.cap] ∧ a.name.length ≤ maxLen ∧ a.kind.length ≤ maxLen ∧ Strs N w a.preds pv

section
variable {N : Nat} {w w' : World} (hb : ∀ g, g < N → w'.heap[g]? = w.heap[g]?)
include hb
theorem Strs.keep {l : List Bytes} {v : Value} (h : Strs N w l v) : Strs N w' l v := RR.keep h hb fun _ _ h => h
theorem Moneys.keep {l : List Int} {v : Value} (h : Moneys N w l v) : Moneys N w' l v := RR.keep h hb fun _ _ h => h
theorem cTerm.keep {a : TermM} {xs : List Value} (h : cTerm N w a xs) : cTerm N w' a xs := by obtain ⟨av, h1, h2, h3⟩ := h; exact ⟨av, h1, h2, h3.keep hb⟩
theorem Terms.keep {l : List TermM} {v : Value} (h : Terms N w l v) : Terms N w' l v := RR.keep h hb fun _ _ h => h.keep hb
theorem cLit.keep {a : LitM} {xs : List Value} (h : cLit N w a xs) : cLit N w' a xs := by obtain ⟨av, h1, h2, h3⟩ := h; exact ⟨av, h1, h2, h3.keep hb⟩
theorem cGuard.keep {a : GuardM} {xs : List Value} (h : cGuard N w a xs) : cGuard N w' a xs := by obtain ⟨lv, rv, h1, h2, h3⟩ := h; exact ⟨lv, rv, h1, Terms.keep hb h2, Terms.keep hb h3⟩
theorem cPrem.keep {a : PremM} {xs : List Value} (h : cPrem N w a xs) : cPrem N w' a xs := by obtain ⟨ls, gs, h1, h2, h3, h4⟩ := h; exact ⟨ls, gs, h1, h2.keep hb, h3.keep hb, h4⟩
theorem Prems.keep {l : List PremM} {v : Value} (h : Prems N w l v) : Prems N w' l v := RR.keep h hb fun _ _ h => h.keep hb
theorem cRule.keep {a : RuleM} {xs : List Value} (h : cRule N w a xs) : cRule N w' a xs := by obtain ⟨bv, ls, h1, h2, h3, h4, h5⟩ := h; exact ⟨bv, ls, h1, h2, h3, Prems.keep hb h4, h5.keep hb⟩
theorem cPred.keep {a : PredM} {xs : List Value} (h : cPred N w a xs) : cPred N w' a xs := by obtain ⟨kv, vv, h1, h2, h3, h4⟩ := h; exact ⟨kv, vv, h1, h2, Strs.keep hb h3, Moneys.keep hb h4⟩
theorem cClass.keep {a : List Bytes} {xs : List Value} (h : cClass N w a xs) : cClass N w' a xs := by obtain ⟨cv, h1, h2⟩ := h; exact ⟨cv, h1, Strs.keep hb h2⟩
theorem cTotal.keep {a : TotalM} {xs : List Value} (h : cTotal N w a xs) : cTotal N w' a xs := by obtain ⟨pv, h1, h2, h3, h4⟩ := h; exact ⟨pv, h1, h2, h3, Strs.keep hb h4⟩
end

/-- The nine cells of a statute. -/
structure St9 where
  title : Value
  kinds : Value
  members : Value
  preds : Value
  classes : Value
  sources : Value
  rules : Value
  excepts : Value
  totals : Value
abbrev St9.agg (st : St9) : Value := .agg #[st.title, st.kinds, st.members, st.preds, st.classes, st.sources, st.rules, st.excepts, st.totals]
/-- A statute that may be read. -/
structure SR (N : Nat) (w : World) (S : StatM) (st : St9) : Prop where
  title : ∃ t, st.title = .string t
  kinds : Strs N w S.kinds st.kinds
  members : RR N 2 cM w S.members st.members
  preds : RR N 4 (cPred N) w S.preds st.preds
  classes : RR N 1 (cClass N) w S.classes st.classes
  sources : RR N 2 cSrc w S.sources st.sources
  rules : RR N 11 (cRule N) w S.rules st.rules
  excepts : RR N 2 cM w S.excepts st.excepts
  totals : RR N 5 (cTotal N) w S.totals st.totals
theorem SR.keep {N : Nat} {w w' : World} {S : StatM} {st : St9} (h : SR N w S st) (hb : ∀ g, g < N → w'.heap[g]? = w.heap[g]?) : SR N w' S st :=
  ⟨h.title, h.kinds.keep hb, RR.keep h.members hb fun _ _ h => h, RR.keep h.preds hb fun _ _ h => h.keep hb, RR.keep h.classes hb fun _ _ h => h.keep hb, RR.keep h.sources hb fun _ _ h => h, RR.keep h.rules hb fun _ _ h => h.keep hb, RR.keep h.excepts hb fun _ _ h => h, RR.keep h.totals hb fun _ _ h => h.keep hb⟩

/-- The map of numbers of keys: of each the first. -/
def Num (l : List Bytes) (D : DataW Unit) : Prop := ∀ s : Bytes, Maps.has D (.string s) = decide (s ∈ l) ∧ D.atKey (.string s) (.lit (.int .i64 0)) = .lit (.int .i64 (posB l s))
def KMap (kt : Nat) (w : World) (b : Nat) (l : List Bytes) : Prop := ∃ n D, w.ownsMap (H := Unit) Tryz.prog kt (plainElem Tryz.prog 3) b n D ∧ Num l D ∧ n ≤ l.length
/-- A map of which the keys alone are known. -/
def CMap (w : World) (b : Nat) (l : List Bytes) : Prop := ∃ n D, w.ownsMap (H := Unit) Tryz.prog 9 (plainElem Tryz.prog 3) b n D ∧ (∀ s : Bytes, Maps.has D (.string s) = decide (s ∈ l)) ∧ n ≤ l.length
theorem map_keep {w w' : World} {P : Program} {k : TypeId} {R : Value → Option (DataW Unit × List MemPlace)} {b n : Nat} {D : DataW Unit} (h : w.ownsMap P k R b n D) (hb : w'.heap[b]? = w.heap[b]?) : w'.ownsMap P k R b n D := by
  obtain ⟨es, c, h1, h2⟩ := h
  exact ⟨es, c, hb.trans h1, h2⟩
theorem KMap.keep {kt b : Nat} {w w' : World} {l : List Bytes} (h : KMap kt w b l) (hb : w'.heap[b]? = w.heap[b]?) : KMap kt w' b l := by
  obtain ⟨n, D, h1, h2⟩ := h
  exact ⟨n, D, map_keep h1 hb, h2⟩
theorem CMap.keep {b : Nat} {w w' : World} {l : List Bytes} (h : CMap w b l) (hb : w'.heap[b]? = w.heap[b]?) : CMap w' b l := by
  obtain ⟨n, D, h1, h2⟩ := h
  exact ⟨n, D, map_keep h1 hb, h2⟩
theorem KMap.lt {kt b : Nat} {w : World} {l : List Bytes} (h : KMap kt w b l) : b < w.heap.size := by obtain ⟨n, D, h1, _⟩ := h; exact h1.lt
theorem CMap.lt {b : Nat} {w : World} {l : List Bytes} (h : CMap w b l) : b < w.heap.size := by obtain ⟨n, D, h1, _⟩ := h; exact h1.lt
theorem num_nil : Num [] (.map []) := fun s => ⟨by simp [Maps.has], by simp [posB]; rfl⟩
theorem key_str (s : Bytes) : WideAt.IsKeyLit (.string s) := trivial
theorem num_put {l : List Bytes} {D : DataW Unit} {s : Bytes} (h : Num l D) (hD : Maps.IsMap D) (hs : s ∉ l) : Num (l ++ [s]) (D.put (.string s) (.lit (.int .i64 l.length))) := by
  intro t
  by_cases e : t = s
  · subst e
    refine ⟨by rw [Maps.has_put_same hD (key_str _)]; simp, ?_⟩
    rw [Maps.atKey_put_same hD (key_str _)]
    have : posB (l ++ [t]) t = l.length := by unfold posB; rw [if_pos (by simp), List.idxOf_append, if_neg hs]; simp
    rw [this]
  · have hne : Lit.string t ≠ Lit.string s := by intro h; injection h; contradiction
    refine ⟨by rw [Maps.has_put_other hne, (h t).1]; simp [e], ?_⟩
    rw [Maps.atKey_put_other hne, (h t).2]
    have : posB (l ++ [s]) t = posB l t := by
      unfold posB
      by_cases hm : t ∈ l
      · rw [if_pos (by simp [hm]), if_pos hm, List.idxOf_append, if_pos hm]
      · rw [if_neg (by simp [hm, e]), if_neg hm]
    rw [this]
theorem num_same {l : List Bytes} {D : DataW Unit} {s : Bytes} (h : Num l D) (hs : s ∈ l) : Num (l ++ [s]) D := by
  intro t
  refine ⟨by rw [(h t).1]; by_cases e : t = s <;> simp [e, hs], ?_⟩
  rw [(h t).2]
  have : posB (l ++ [s]) t = posB l t := by
    unfold posB
    by_cases hm : t ∈ l
    · rw [if_pos (by simp [hm]), if_pos hm, List.idxOf_append, if_pos hm]
    · have : t ≠ s := fun e => hm (e ▸ hs)
      rw [if_neg (by simp [hm, this]), if_neg hm]
  rw [this]

/-- The maps' blocks. -/
structure Mp8 where
  K : Nat
  M : Nat
  P : Nat
  S : Nat
  R : Nat
  E : Nat
  T : Nat
  C : Nat
/-- A resolver at block R, once its maps are made. -/
structure Res (R : Nat) (S : StatM) (st : St9) (mp : Mp8) (it : Nat) (seen : List Bytes) (w : World) : Prop where
  box : w.heap[R]? = some (.cells #[st.title, st.kinds, st.members, st.preds, st.classes, st.sources, st.rules, st.excepts, st.totals, .int .i64 it, .map (some mp.K), .map (some mp.M), .map (some mp.P), .map (some mp.S), .map (some mp.R), .map (some mp.E), .map (some mp.T), .map (some mp.C)] 86 (0, 0))
  rep : SR R w S st
  fit : S.fitsB = true
  mK : KMap 9 w mp.K S.kinds
  mM : KMap 9 w mp.M S.ctx.people
  mP : KMap 9 w mp.P S.ctx.names
  mS : KMap 9 w mp.S S.srcs
  mR : KMap 9 w mp.R S.heads
  mE : KMap 41 w mp.E S.keys
  mT : KMap 9 w mp.T S.sums
  mC : CMap w mp.C seen
  ne : R < mp.K ∧ R < mp.M ∧ R < mp.P ∧ R < mp.S ∧ R < mp.R ∧ R < mp.E ∧ R < mp.T ∧ R < mp.C
  nc : mp.K ≠ mp.C ∧ mp.M ≠ mp.C ∧ mp.P ≠ mp.C ∧ mp.S ≠ mp.C ∧ mp.R ≠ mp.C ∧ mp.E ≠ mp.C ∧ mp.T ≠ mp.C

section
variable {R : Nat} {S : StatM} {st : St9} {mp : Mp8} {it : Nat} {seen : List Bytes} {w w' : World}
theorem Res.keep (h : Res R S st mp it seen w) (hb : ∀ k, k < w.heap.size → w'.heap[k]? = w.heap[k]?) : Res R S st mp it seen w' := by
  have hR := loc_lt h.box
  exact ⟨(hb R hR).trans h.box, h.rep.keep fun g hg => hb g (by omega), h.fit, h.mK.keep (hb _ h.mK.lt), h.mM.keep (hb _ h.mM.lt), h.mP.keep (hb _ h.mP.lt), h.mS.keep (hb _ h.mS.lt), h.mR.keep (hb _ h.mR.lt), h.mE.keep (hb _ h.mE.lt), h.mT.keep (hb _ h.mT.lt), h.mC.keep (hb _ h.mC.lt), h.ne, h.nc⟩
theorem Res.below (h : Res R S st mp it seen w) (hb : Below w.heap.size w w') : Res R S st mp it seen w' := h.keep hb.block
theorem Res.c0 (h : Res R S st mp it seen w) : w.cell? ⟨R, 0, none⟩ = some (st.title) := cell_of_row w R 0 _ _ _ h.box
theorem Res.c1 (h : Res R S st mp it seen w) : w.cell? ⟨R, 1, none⟩ = some (st.kinds) := cell_of_row w R 1 _ _ _ h.box
theorem Res.c2 (h : Res R S st mp it seen w) : w.cell? ⟨R, 2, none⟩ = some (st.members) := cell_of_row w R 2 _ _ _ h.box
theorem Res.c3 (h : Res R S st mp it seen w) : w.cell? ⟨R, 3, none⟩ = some (st.preds) := cell_of_row w R 3 _ _ _ h.box
theorem Res.c4 (h : Res R S st mp it seen w) : w.cell? ⟨R, 4, none⟩ = some (st.classes) := cell_of_row w R 4 _ _ _ h.box
theorem Res.c5 (h : Res R S st mp it seen w) : w.cell? ⟨R, 5, none⟩ = some (st.sources) := cell_of_row w R 5 _ _ _ h.box
theorem Res.c6 (h : Res R S st mp it seen w) : w.cell? ⟨R, 6, none⟩ = some (st.rules) := cell_of_row w R 6 _ _ _ h.box
theorem Res.c7 (h : Res R S st mp it seen w) : w.cell? ⟨R, 7, none⟩ = some (st.excepts) := cell_of_row w R 7 _ _ _ h.box
theorem Res.c8 (h : Res R S st mp it seen w) : w.cell? ⟨R, 8, none⟩ = some (st.totals) := cell_of_row w R 8 _ _ _ h.box
theorem Res.c9 (h : Res R S st mp it seen w) : w.cell? ⟨R, 9, none⟩ = some (.int .i64 it) := cell_of_row w R 9 _ _ _ h.box
theorem Res.c10 (h : Res R S st mp it seen w) : w.cell? ⟨R, 10, none⟩ = some (.map (some mp.K)) := cell_of_row w R 10 _ _ _ h.box
theorem Res.c11 (h : Res R S st mp it seen w) : w.cell? ⟨R, 11, none⟩ = some (.map (some mp.M)) := cell_of_row w R 11 _ _ _ h.box
theorem Res.c12 (h : Res R S st mp it seen w) : w.cell? ⟨R, 12, none⟩ = some (.map (some mp.P)) := cell_of_row w R 12 _ _ _ h.box
theorem Res.c13 (h : Res R S st mp it seen w) : w.cell? ⟨R, 13, none⟩ = some (.map (some mp.S)) := cell_of_row w R 13 _ _ _ h.box
theorem Res.c14 (h : Res R S st mp it seen w) : w.cell? ⟨R, 14, none⟩ = some (.map (some mp.R)) := cell_of_row w R 14 _ _ _ h.box
theorem Res.c15 (h : Res R S st mp it seen w) : w.cell? ⟨R, 15, none⟩ = some (.map (some mp.E)) := cell_of_row w R 15 _ _ _ h.box
theorem Res.c16 (h : Res R S st mp it seen w) : w.cell? ⟨R, 16, none⟩ = some (.map (some mp.T)) := cell_of_row w R 16 _ _ _ h.box
theorem Res.c17 (h : Res R S st mp it seen w) : w.cell? ⟨R, 17, none⟩ = some (.map (some mp.C)) := cell_of_row w R 17 _ _ _ h.box
theorem Res.frz (h : Res R S st mp it seen w) (i : Nat) : w.frozen? ⟨R, i, none⟩ = false := frozen_of_row w R i _ _ h.box
end
end Go.Proofs.YtbdlgglbcaoakaaGreat
