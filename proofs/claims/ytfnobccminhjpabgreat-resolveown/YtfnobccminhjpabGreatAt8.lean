/- The cells of a statute's things. -/
import Derived.Test.YtfnobccminhjpabGreatPut8
namespace Go.Proofs.YtfnobccminhjpabGreat
open Go.RowKit Go.Shelf Go.Maps Go.WideMaps

section
variable {N : Nat} {w : World} {a : Option Addr} {n c i : Nat}
theorem RR.open {α : Type} {k : Nat} {cc : World → α → List Value → Prop} {l : List α} (h : RR N k cc w l (.slice a n c)) {x : α} (hx : l[i]? = some x) :
    ∃ g o xs, a = some ⟨g, o, none⟩ ∧ g < N ∧ xs.length = k ∧ (∀ j u, xs[j]? = some u → w.cell? ⟨g, o + i * k + j, none⟩ = some u) ∧ cc w x xs := by
  obtain ⟨a', c', e, _, _, h⟩ := h
  cases e
  exact h i x hx
theorem at_S {l : List Bytes} (h : Strs N w l (.slice a n c)) {x : Bytes} (hx : l[i]? = some x) : ∃ g o, a = some ⟨g, o, none⟩ ∧ g < N ∧ w.cell? ⟨g, o + i, none⟩ = some (str x) ∧ x.length ≤ maxLen := by
  obtain ⟨g, o, xs, ea, hg, _, hc, rfl, hs⟩ := RR.open h hx
  have c0 := hc 0 _ rfl
  rw [Nat.mul_one] at c0
  exact ⟨g, o, ea, hg, c0, hs⟩
theorem at_V {l : List Int} (h : Moneys N w l (.slice a n c)) {x : Int} (hx : l[i]? = some x) : ∃ g o, a = some ⟨g, o, none⟩ ∧ g < N ∧ w.cell? ⟨g, o + i, none⟩ = some (.int .i64 x) := by
  obtain ⟨g, o, xs, ea, hg, _, hc, rfl⟩ := RR.open h hx
  have c0 := hc 0 _ rfl
  rw [Nat.mul_one] at c0
  exact ⟨g, o, ea, hg, c0⟩
theorem at_M {l : List (Bytes × Bytes)} (h : RR N 2 cM w l (.slice a n c)) {x : Bytes × Bytes} (hx : l[i]? = some x) : ∃ g o, a = some ⟨g, o, none⟩ ∧ g < N ∧ w.cell? ⟨g, o + i * 2, none⟩ = some (str x.1) ∧ w.cell? ⟨g, o + i * 2 + 1, none⟩ = some (str x.2) ∧ x.1.length ≤ maxLen ∧ x.2.length ≤ maxLen := by
  obtain ⟨g, o, xs, ea, hg, _, hc, rfl, h1, h2⟩ := RR.open h hx
  exact ⟨g, o, ea, hg, hc 0 _ rfl, hc 1 _ rfl, h1, h2⟩
theorem at_Src {l : List (Bytes × Int)} (h : RR N 2 cSrc w l (.slice a n c)) {x : Bytes × Int} (hx : l[i]? = some x) : ∃ g o, a = some ⟨g, o, none⟩ ∧ g < N ∧ w.cell? ⟨g, o + i * 2, none⟩ = some (str x.1) ∧ w.cell? ⟨g, o + i * 2 + 1, none⟩ = some (.int .i64 x.2) ∧ x.1.length ≤ maxLen := by
  obtain ⟨g, o, xs, ea, hg, _, hc, rfl, h1⟩ := RR.open h hx
  exact ⟨g, o, ea, hg, hc 0 _ rfl, hc 1 _ rfl, h1⟩
theorem at_P {l : List PredM} (h : RR N 4 (cPred N) w l (.slice a n c)) {x : PredM} (hx : l[i]? = some x) : ∃ g o ka kc va vc, a = some ⟨g, o, none⟩ ∧ g < N ∧ w.cell? ⟨g, o + i * 4, none⟩ = some (str x.name) ∧ w.cell? ⟨g, o + i * 4 + 1, none⟩ = some (.int .i64 x.sort) ∧
    w.cell? ⟨g, o + i * 4 + 2, none⟩ = some (.slice ka x.kinds.length kc) ∧ w.cell? ⟨g, o + i * 4 + 3, none⟩ = some (.slice va x.values.length vc) ∧ x.name.length ≤ maxLen ∧ Strs N w x.kinds (.slice ka x.kinds.length kc) ∧ Moneys N w x.values (.slice va x.values.length vc) := by
  obtain ⟨g, o, xs, ea, hg, _, hc, kv, vv, rfl, h1, h2, h3⟩ := RR.open h hx
  obtain ⟨ka, kc, rfl, _⟩ := h2.form
  obtain ⟨va, vc, rfl, _⟩ := h3.form
  exact ⟨g, o, ka, kc, va, vc, ea, hg, hc 0 _ rfl, hc 1 _ rfl, hc 2 _ rfl, hc 3 _ rfl, h1, h2, h3⟩
theorem at_C {l : List (List Bytes)} (h : RR N 1 (cClass N) w l (.slice a n c)) {x : List Bytes} (hx : l[i]? = some x) : ∃ g o ka kc, a = some ⟨g, o, none⟩ ∧ g < N ∧ w.cell? ⟨g, o + i, none⟩ = some (.slice ka x.length kc) ∧ Strs N w x (.slice ka x.length kc) := by
  obtain ⟨g, o, xs, ea, hg, _, hc, kv, rfl, h1⟩ := RR.open h hx
  obtain ⟨ka, kc, rfl, _⟩ := h1.form
  have c0 := hc 0 _ rfl
  rw [Nat.mul_one] at c0
  exact ⟨g, o, ka, kc, ea, hg, c0, h1⟩
theorem at_T {l : List TotalM} (h : RR N 5 (cTotal N) w l (.slice a n c)) {x : TotalM} (hx : l[i]? = some x) : ∃ g o ka kc, a = some ⟨g, o, none⟩ ∧ g < N ∧ w.cell? ⟨g, o + i * 5, none⟩ = some (str x.name) ∧ w.cell? ⟨g, o + i * 5 + 1, none⟩ = some (str x.kind) ∧
    w.cell? ⟨g, o + i * 5 + 2, none⟩ = some (.slice ka x.preds.length kc) ∧ w.cell? ⟨g, o + i * 5 + 3, none⟩ = some (.bool x.hasCap) ∧ w.cell? ⟨g, o + i * 5 + 4, none⟩ = some (.int .i64 x.cap) ∧ x.name.length ≤ maxLen ∧ x.kind.length ≤ maxLen ∧ Strs N w x.preds (.slice ka x.preds.length kc) := by
  obtain ⟨g, o, xs, ea, hg, _, hc, pv, rfl, h1, h2, h3⟩ := RR.open h hx
  obtain ⟨ka, kc, rfl, _⟩ := h3.form
  exact ⟨g, o, ka, kc, ea, hg, hc 0 _ rfl, hc 1 _ rfl, hc 2 _ rfl, hc 3 _ rfl, hc 4 _ rfl, h1, h2, h3⟩
theorem at_R {l : List RuleM} (h : RR N 11 (cRule N) w l (.slice a n c)) {x : RuleM} (hx : l[i]? = some x) : ∃ g o ba bc ka kc, a = some ⟨g, o, none⟩ ∧ g < N ∧ w.cell? ⟨g, o + i * 11, none⟩ = some (str x.name) ∧ w.cell? ⟨g, o + i * 11 + 1, none⟩ = some (str x.source) ∧ w.cell? ⟨g, o + i * 11 + 2, none⟩ = some (.int .i64 x.day) ∧
    w.cell? ⟨g, o + i * 11 + 3, none⟩ = some (.int .i64 x.till) ∧ w.cell? ⟨g, o + i * 11 + 4, none⟩ = some (.slice ba x.body.length bc) ∧ w.cell? ⟨g, o + i * 11 + 5, none⟩ = some (.int .i64 x.arrow) ∧ w.cell? ⟨g, o + i * 11 + 6, none⟩ = some (.bool x.head.neg) ∧ w.cell? ⟨g, o + i * 11 + 7, none⟩ = some (str x.head.pred) ∧
    w.cell? ⟨g, o + i * 11 + 8, none⟩ = some (.slice ka x.head.args.length kc) ∧ w.cell? ⟨g, o + i * 11 + 9, none⟩ = some (.bool x.head.hasValue) ∧ w.cell? ⟨g, o + i * 11 + 10, none⟩ = some (.int .i64 x.head.value) ∧
    x.name.length ≤ maxLen ∧ x.source.length ≤ maxLen ∧ x.head.pred.length ≤ maxLen ∧ Prems N w x.body (.slice ba x.body.length bc) ∧ Strs N w x.head.args (.slice ka x.head.args.length kc) := by
  obtain ⟨g, o, xs, ea, hg, _, hc, bv, ls, rfl, h1, h2, h3, av, rfl, h4, h5⟩ := RR.open h hx
  obtain ⟨ba, bc, rfl, _⟩ := h3.form
  obtain ⟨ka, kc, rfl, _⟩ := h5.form
  exact ⟨g, o, ba, bc, ka, kc, ea, hg, hc 0 _ rfl, hc 1 _ rfl, hc 2 _ rfl, hc 3 _ rfl, hc 4 _ rfl, hc 5 _ rfl, hc 6 _ rfl, hc 7 _ rfl, hc 8 _ rfl, hc 9 _ rfl, hc 10 _ rfl, h1, h2, h4, h3, h5⟩
end
end Go.Proofs.YtfnobccminhjpabGreat
