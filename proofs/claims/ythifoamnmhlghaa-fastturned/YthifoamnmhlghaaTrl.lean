/- The rows of turned's beats in memory, while they are written anew. No walk. -/
import Derived.Test.YthifoamnmhlghaaTrn
import Derived.Test.YthifoamnmhlghaaCpt
import Derived.Test.YthifoamnmhlghaaFrs
namespace Go.Proofs.Ythifoamnmhlghaa.Fa
open Go.RowKit

/-- Rows below i are written anew, those from i are as they were. -/
structure Lo (N i : Nat) (p : Nat → Int → Bool) (q gB s0 : Nat) (bx curS vs : List Value) (wS wr : World) : Prop where
  bx : Fx q 25 bx wr
  fx : Fx gB 26 vs wr
  lt : gB < s0
  ql : q < s0
  vl : vs.length = curS.length
  done : ∀ j, j < i → ∃ va vc, vs[j]? = some (.slice va (soL (p j) N).length vc) ∧ wr.ownsRow s0 3 1 (.slice va (soL (p j) N).length vc) (soL (p j) N).length (ints (soL (p j) N))
  rest : ∀ j, i ≤ j → vs[j]? = curS[j]?
  old : ∀ k, k < s0 → k ≠ gB → wr.heap[k]? = wS.heap[k]?
  sz : s0 ≤ wr.heap.size
section
variable {N i : Nat} {p : Nat → Int → Bool} {q gB s0 : Nat} {bx curS vs : List Value} {wS wr w' : World}
theorem Lo.keep (h : Lo N i p q gB s0 bx curS vs wS wr) (hb : ∀ k, k < wr.heap.size → w'.heap[k]? = wr.heap[k]?) (hs : wr.heap.size ≤ w'.heap.size) : Lo N i p q gB s0 bx curS vs wS w' := by
  have hz := h.sz
  exact ⟨h.bx.keep (hb _ h.bx.lt), h.fx.keep (hb _ h.fx.lt), h.lt, h.ql, h.vl, fun j hj => by
    obtain ⟨va, vc, h1, h2⟩ := h.done j hj
    exact ⟨va, vc, h1, owns_keep h2 fun g hg => hb g (owns_lt h2 hg)⟩, h.rest, fun k hk hk2 => by rw [hb k (by omega), h.old k hk hk2], by omega⟩
theorem Lo.go (h : Lo N i p q gB s0 bx curS vs wS wr) (hb : Below wr.heap.size wr w') : Lo N i p q gB s0 bx curS vs wS w' := h.keep (fun k hk => hb.block k hk) hb.size
/-- Row i is being written: its first k places. -/
structure Lq (N i k : Nat) (p : Nat → Int → Bool) (q gB s0 ib : Nat) (bx curS vs : List Value) (wS wr : World) : Prop where
  bx : Fx q 25 bx wr
  fx : Fx gB 26 vs wr
  lt : gB < s0
  ql : q < s0
  vl : vs.length = curS.length
  il : i < curS.length
  done : ∀ j, j < i → ∃ va vc, vs[j]? = some (.slice va (soL (p j) N).length vc) ∧ wr.ownsRow s0 3 1 (.slice va (soL (p j) N).length vc) (soL (p j) N).length (ints (soL (p j) N)) ∧ ∀ g, Value.ownBlock (.slice va (soL (p j) N).length vc) = some g → g < ib
  now : ∃ va vc, vs[i]? = some (.slice va (soL (p i) k).length vc) ∧ wr.ownsRow (ib + 1) 3 1 (.slice va (soL (p i) k).length vc) (soL (p i) k).length (ints (soL (p i) k))
  rest : ∀ j, i + 1 ≤ j → vs[j]? = curS[j]?
  old : ∀ k, k < s0 → k ≠ gB → wr.heap[k]? = wS.heap[k]?
  mrk : Fx ib 4 (rowB N (p i)) wr
  si : s0 ≤ ib
theorem Lo.begin (h : Lo N i p q gB s0 bx curS vs wS wr) (hi : i < curS.length) {ib : Nat} (hib : ib = wr.heap.size) (hb : ∀ k, k < wr.heap.size → w'.heap[k]? = wr.heap[k]?) (hm : Fx ib 4 (rowB N (p i)) w') : Lq N i 0 p q gB s0 ib bx curS (vs.set i (.slice none 0 0)) wS (w'.setCell ⟨gB, i, none⟩ (.slice none 0 0)) := by
  have hz := h.sz
  have hf := h.fx.keep (hb _ h.fx.lt)
  have hlt := h.lt
  refine ⟨(h.bx.keep (hb _ h.bx.lt)).keep (other_set (fx_ne h.bx h.fx (by decide))), hf.set i _, h.lt, h.ql, by rw [List.length_set]; exact h.vl, hi, fun j hj => ?_, ?_, fun j hj => ?_, fun k hk hk2 => ?_, hm.keep (other_set (by omega)), by omega⟩
  · obtain ⟨va, vc, h1, h2⟩ := h.done j hj
    refine ⟨va, vc, by rw [List.getElem?_set_ne (by omega)]; exact h1, owns_keep (owns_keep h2 fun g hg => hb g (owns_lt h2 hg)) fun g hg => other_set (by have := (h2.lt g hg).1; omega), fun g hg => by rw [hib]; exact owns_lt h2 hg⟩
  · exact ⟨none, 0, by rw [List.getElem?_set_self (by rw [h.vl]; exact hi)]; rfl, rfl, .inl ⟨rfl, rfl⟩⟩
  · rw [List.getElem?_set_ne (by omega)]
    exact h.rest j (by omega)
  · rw [other_set hk2, hb k (by omega)]
    exact h.old k hk hk2
variable {k ib : Nat}
theorem Lq.skip (h : Lq N i k p q gB s0 ib bx curS vs wS wr) (hp : p i k = false) : Lq N i (k + 1) p q gB s0 ib bx curS vs wS wr :=
  ⟨h.bx, h.fx, h.lt, h.ql, h.vl, h.il, h.done, by rw [show soL (p i) (k + 1) = soL (p i) k from by rw [soL_succ, hp]; rfl]; exact h.now, h.rest, h.old, h.mrk, h.si⟩
theorem Lq.keep (h : Lq N i k p q gB s0 ib bx curS vs wS wr) (hb : Below wr.heap.size wr w') : Lq N i k p q gB s0 ib bx curS vs wS w' := by
  have hml := h.mrk.lt
  have hsi := h.si
  refine ⟨h.bx.keep (hb.block _ h.bx.lt), h.fx.keep (hb.block _ h.fx.lt), h.lt, h.ql, h.vl, h.il, fun j hj => ?_, ?_, h.rest, fun k hk hk2 => by rw [hb.block k (by omega), h.old k hk hk2], h.mrk.keep (hb.block _ h.mrk.lt), h.si⟩
  · obtain ⟨va, vc, h1, h2, h3⟩ := h.done j hj
    exact ⟨va, vc, h1, owns_keep h2 fun g hg => hb.block g (owns_lt h2 hg), h3⟩
  · obtain ⟨va, vc, h1, h2⟩ := h.now
    exact ⟨va, vc, h1, owns_keep h2 fun g hg => hb.block g (owns_lt h2 hg)⟩
/-- One number more: the row's own block alone is written, or a new one; then the row's cell. -/
theorem Lq.add (h : Lq N i k p q gB s0 ib bx curS vs wS wr) (hp : p i k = true) {v : Value} (hv : vs[i]? = some v) {g4 cap4 : Nat} (hnew : w'.ownsRow (ib + 1) 3 1 (.slice (some ⟨g4, 0, none⟩) ((soL (p i) k).length + 1) cap4) ((soL (p i) k).length + 1) (ints (soL (p i) k) ++ [.int .i64 k]))
    (hold : ∀ k, k < wr.heap.size → v.ownBlock ≠ some k → w'.heap[k]? = wr.heap[k]?) :
    Lq N i (k + 1) p q gB s0 ib bx curS (vs.set i (.slice (some ⟨g4, 0, none⟩) ((soL (p i) k).length + 1) cap4)) wS (w'.setCell ⟨gB, i, none⟩ (.slice (some ⟨g4, 0, none⟩) ((soL (p i) k).length + 1) cap4)) := by
  have hlt := h.lt
  have hql := h.ql
  have hsi := h.si
  have hml := h.mrk.lt
  obtain ⟨va, vc, n1, n2⟩ := h.now
  rw [hv] at n1
  cases n1
  have hlow2 : ∀ j, j ≤ ib → w'.heap[j]? = wr.heap[j]? := fun j hj => hold j (by omega) fun e => by
    have := (n2.lt j e).1
    omega
  have e1 : soL (p i) (k + 1) = soL (p i) k ++ [(k : Int)] := by rw [soL_succ, hp]; rfl
  refine ⟨(h.bx.keep (hlow2 _ (by omega))).keep (other_set (fx_ne h.bx h.fx (by decide))), (h.fx.keep (hlow2 _ (by omega))).set i _, h.lt, h.ql, by rw [List.length_set]; exact h.vl, h.il, fun j hj => ?_, ?_, fun j hj => ?_, fun k hk hk2 => ?_, (h.mrk.keep (hlow2 _ (Nat.le_refl _))).keep (other_set (by omega)), h.si⟩
  · obtain ⟨a2, c2, h1, h2, h3⟩ := h.done j hj
    exact ⟨a2, c2, by rw [List.getElem?_set_ne (by omega)]; exact h1, owns_keep (owns_keep h2 fun g hg => hlow2 g (by have := h3 g hg; omega)) fun g hg => other_set (by have := (h2.lt g hg).1; omega), h3⟩
  · refine ⟨some ⟨g4, 0, none⟩, cap4, ?_, ?_⟩
    · rw [List.getElem?_set_self (by rw [h.vl]; exact h.il), e1]
      simp
    · rw [e1]
      have e2 : (soL (p i) k ++ [(k : Int)]).length = (soL (p i) k).length + 1 := by simp
      have e3 : ints (soL (p i) k ++ [(k : Int)]) = ints (soL (p i) k) ++ [.int .i64 k] := by unfold ints; simp
      rw [e2, e3]
      exact owns_keep hnew fun g hg => other_set (by have := (hnew.lt g hg).1; omega)
  · rw [List.getElem?_set_ne (by omega)]
    exact h.rest j hj
  · rw [other_set hk2, hlow2 k (by omega)]
    exact h.old k hk hk2
theorem Lq.fin (h : Lq N i N p q gB s0 ib bx curS vs wS wr) : Lo N (i + 1) p q gB s0 bx curS vs wS wr := by
  have hml := h.mrk.lt
  have hsi := h.si
  refine ⟨h.bx, h.fx, h.lt, h.ql, h.vl, fun j hj => ?_, h.rest, h.old, by omega⟩
  by_cases e : j = i
  · subst e
    obtain ⟨va, vc, h1, h2⟩ := h.now
    exact ⟨va, vc, h1, owns_down h2 (by omega)⟩
  · obtain ⟨va, vc, h1, h2, -⟩ := h.done j (by omega)
    exact ⟨va, vc, h1, h2⟩
end
/-- The rules' cells behind the swap. -/
theorem rules_turned {T : Th} {a b : Nat} {x y : RuleM} {Z : Nat → Prop} {w1 : World} {cur : List Value} {xv yv : Value} (hx : T.rules[a]? = some x) (hy : T.rules[b]? = some y) (hla : a * 3 + 2 < cur.length) (hlb : b * 3 + 2 < cur.length) (hxv : RZ Z 1 cI w1 x.body xv) (hyv : RZ Z 1 cI w1 y.body yv)
    (hc : ∀ (i : Nat) r, T.rules[i]? = some r → ∃ v, cur[i * 3]? = some (.int .i64 r.kind) ∧ cur[i * 3 + 1]? = some (.int .i64 r.head) ∧ cur[i * 3 + 2]? = some v ∧ RZ Z 1 cI w1 r.body v) {i : Nat} {r : RuleM} (hi : (turnT T a b x y).rules[i]? = some r) :
    ∃ v, ((((((cur.set (a * 3) (.int .i64 y.kind)).set (a * 3 + 1) (.int .i64 y.head)).set (a * 3 + 2) yv).set (b * 3) (.int .i64 x.kind)).set (b * 3 + 1) (.int .i64 x.head)).set (b * 3 + 2) xv)[i * 3]? = some (.int .i64 r.kind) ∧
      ((((((cur.set (a * 3) (.int .i64 y.kind)).set (a * 3 + 1) (.int .i64 y.head)).set (a * 3 + 2) yv).set (b * 3) (.int .i64 x.kind)).set (b * 3 + 1) (.int .i64 x.head)).set (b * 3 + 2) xv)[i * 3 + 1]? = some (.int .i64 r.head) ∧
      ((((((cur.set (a * 3) (.int .i64 y.kind)).set (a * 3 + 1) (.int .i64 y.head)).set (a * 3 + 2) yv).set (b * 3) (.int .i64 x.kind)).set (b * 3 + 1) (.int .i64 x.head)).set (b * 3 + 2) xv)[i * 3 + 2]? = some v ∧ RZ Z 1 cI w1 r.body v := by
  rw [turn_at hx hy] at hi
  unfold sN at hi
  by_cases h1 : i = b
  · subst h1
    have hr : r = x := by
      by_cases h2 : i = a
      · subst h2; rw [if_pos rfl, hx] at hi; exact (Option.some.inj hi).symm
      · rw [if_neg h2, if_pos rfl, hx] at hi; exact (Option.some.inj hi).symm
    subst hr
    refine ⟨xv, ?_, ?_, ?_, hxv⟩
    · rw [List.getElem?_set_ne (by omega), List.getElem?_set_ne (by omega), List.getElem?_set_self (by simp; omega)]
    · rw [List.getElem?_set_ne (by omega), List.getElem?_set_self (by simp; omega)]
    · rw [List.getElem?_set_self (by simp; omega)]
  · by_cases h2 : i = a
    · subst h2
      rw [if_pos rfl, hy] at hi
      obtain rfl := Option.some.inj hi
      refine ⟨yv, ?_, ?_, ?_, hyv⟩
      · rw [List.getElem?_set_ne (by omega), List.getElem?_set_ne (by omega), List.getElem?_set_ne (by omega), List.getElem?_set_ne (by omega), List.getElem?_set_ne (by omega), List.getElem?_set_self (by omega)]
      · rw [List.getElem?_set_ne (by omega), List.getElem?_set_ne (by omega), List.getElem?_set_ne (by omega), List.getElem?_set_ne (by omega), List.getElem?_set_self (by simp; omega)]
      · rw [List.getElem?_set_ne (by omega), List.getElem?_set_ne (by omega), List.getElem?_set_ne (by omega), List.getElem?_set_self (by simp; omega)]
    · rw [if_neg h2, if_neg h1] at hi
      obtain ⟨v, c0, c1, c2, hv⟩ := hc i r hi
      refine ⟨v, ?_, ?_, ?_, hv⟩
      · rw [List.getElem?_set_ne (by omega), List.getElem?_set_ne (by omega), List.getElem?_set_ne (by omega), List.getElem?_set_ne (by omega), List.getElem?_set_ne (by omega), List.getElem?_set_ne (by omega)]; exact c0
      · rw [List.getElem?_set_ne (by omega), List.getElem?_set_ne (by omega), List.getElem?_set_ne (by omega), List.getElem?_set_ne (by omega), List.getElem?_set_ne (by omega), List.getElem?_set_ne (by omega)]; exact c1
      · rw [List.getElem?_set_ne (by omega), List.getElem?_set_ne (by omega), List.getElem?_set_ne (by omega), List.getElem?_set_ne (by omega), List.getElem?_set_ne (by omega), List.getElem?_set_ne (by omega)]; exact c2
end Go.Proofs.Ythifoamnmhlghaa.Fa
