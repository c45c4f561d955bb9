/- A queue in memory: a row that may begin anywhere in its block. -/
import Derived.Test.YtdholifacnnjcaaHrow
import Derived.ArgAppend
namespace Go.Proofs.Ytdholifacnnjcaa
open Go.RowKit

def Qr (B : Nat) (w : World) (v : Value) (W : List Int) : Prop :=
  (v = .slice none 0 0 ∧ W = []) ∨ ∃ g off cap cur, v = .slice (some ⟨g, off, none⟩) W.length cap ∧ B ≤ g ∧ w.heap[g]? = some (.cells cur 3 (0, 0)) ∧ W.length ≤ cap ∧ cap ≤ maxLen ∧ off + cap ≤ cur.size ∧ ∀ (i : Nat) x, W[i]? = some x → cur[off + i]? = some (.int .i64 x)
section
variable {B : Nat} {w w' : World} {v : Value} {W : List Int}
theorem Qr.nil : Qr B w (.slice none 0 0) [] := .inl ⟨rfl, rfl⟩
theorem Qr.keep (h : Qr B w v W) (hk : ∀ g, v.ownBlock = some g → w'.heap[g]? = w.heap[g]?) : Qr B w' v W := by
  rcases h with h | ⟨g, off, cap, cur, rfl, h1, h2, h3⟩
  · exact .inl h
  · exact .inr ⟨g, off, cap, cur, rfl, h1, (hk g rfl).trans h2, h3⟩
theorem Qr.form (h : Qr B w v W) : ∃ a c, v = .slice a W.length c := by
  rcases h with ⟨rfl, rfl⟩ | ⟨g, off, cap, cur, rfl, _⟩
  · exact ⟨_, _, rfl⟩
  · exact ⟨_, _, rfl⟩
theorem Qr.lt (h : Qr B w v W) {g : Nat} (hg : v.ownBlock = some g) : B ≤ g ∧ g < w.heap.size := by
  rcases h with ⟨rfl, _⟩ | ⟨g', off, cap, cur, rfl, h1, h2, _⟩
  · cases hg
  · cases hg; exact ⟨h1, loc_lt h2⟩
theorem Qr.ne (h : Qr B w v W) {q T : Nat} {vs : List Value} (hf : Fx q T vs w) (hT : 3 ≠ T) : v.ownBlock ≠ some q := by
  intro hg
  rcases h with ⟨rfl, _⟩ | ⟨g', off, cap, cur, rfl, h1, h2, _⟩
  · cases hg
  · cases hg
    rw [hf] at h2
    cases h2
    exact hT rfl
/-- The first is there. -/
theorem Qr.head {x : Int} {q : List Int} (h : Qr B w v (x :: q)) : ∃ g off c, v = .slice (some ⟨g, off, none⟩) (q.length + 1) c ∧ q.length + 1 ≤ c ∧ c ≤ maxLen ∧ w.cell? ⟨g, off, none⟩ = some (.int .i64 x) := by
  rcases h with ⟨_, e⟩ | ⟨g, off, cap, cur, rfl, h1, h2, h3, h4, h5, h6⟩
  · cases e
  · refine ⟨g, off, cap, rfl, h3, h4, ?_⟩
    rw [cell_of_row w g off cur 3 _ h2]
    exact h6 0 x rfl
/-- Without the first. -/
theorem Qr.tail {x : Int} {q : List Int} {g off c : Nat} (h : Qr B w (.slice (some ⟨g, off, none⟩) (q.length + 1) c) (x :: q)) : Qr B w (.slice (some ⟨g, off + 1, none⟩) q.length (c - 1)) q := by
  rcases h with ⟨e, _⟩ | ⟨g, off, cap, cur, e, h1, h2, h3, h4, h5, h6⟩
  · cases e
  · cases e
    simp only [List.length_cons] at h3
    refine .inr ⟨g, off + 1, c - 1, cur, rfl, h1, h2, by omega, by omega, by omega, fun i y hi => ?_⟩
    have := h6 (i + 1) y (by simpa using hi)
    rw [show off + 1 + i = off + (i + 1) by omega]
    exact this
end
theorem run_append_q {P : Program} (w : World) (base : Nat) (t ty : TypeId) (i : TypeInfo) (z : Value) (ht : P.underlying t = some (.slice 3)) (hi : P.info? 3 = some i) (hz : i.zero = some z)
    (hsize : i.size = 1) (hby : i.bytes = 8) (hzs : z.cells.size = 1) (v : Value) (W : List Int) (hq : Qr base w v W)
    (ad : Addr) (c : Nat) (x : Int) (hnews : w.cell? (ad.add 0) = some (.int .i64 x)) (h63 : W.length + 1 ≤ 1000000) (hbase : base ≤ w.heap.size) :
    ∃ v' w', (Builtin.append_ #[t, t] ty #[v, .slice (some ad) 1 c]).run P w = .ok v' w' ∧ (∃ g o k, v' = .slice (some ⟨g, o, none⟩) (W.length + 1) k ∧ (v.ownBlock = some g ∨ w.heap.size ≤ g)) ∧ Qr base w' v' (W ++ [x]) ∧ w.grownBy w' v.ownBlock := by
  have hnw : ∀ j u, [Value.int .i64 x][j]? = some u → w.cell? (ad.add j) = some u := by
    intro j u hu
    match j, hu with
    | 0, hu => simp at hu; subst hu; exact hnews
  have fresh : ∀ v' w', w'.ownsRow w.heap.size 3 1 v' (W.length + 1) (ints W ++ [.int .i64 x]) → w.grownBy w' none → (∃ g o k, v' = .slice (some ⟨g, o, none⟩) (W.length + 1) k ∧ (v.ownBlock = some g ∨ w.heap.size ≤ g)) ∧ Qr base w' v' (W ++ [x]) ∧ w.grownBy w' v.ownBlock := by
    intro v' w' ho hg
    refine ⟨?_, ?_, ⟨hg.os, hg.tape, hg.output, hg.size, fun k hk _ => hg.block k hk (by simp)⟩⟩
    · rcases ho.2 with ⟨_, h⟩ | ⟨g, cap, cur, e, h1, _⟩
      · omega
      · exact ⟨g, 0, cap, e, .inr h1⟩
    · rcases ho.2 with ⟨_, h⟩ | ⟨g, cap, cur, e, h1, h2, h3, h4, h5, h6⟩
      · omega
      · refine .inr ⟨g, 0, cap, cur, by rw [e]; simp, by omega, h2, by simp; omega, h4, by omega, fun i y hi => ?_⟩
        have h7 : (ints W ++ [.int .i64 x])[i]? = some (.int .i64 y) := by
          rw [← ints_snoc]
          unfold ints
          rw [List.getElem?_map, hi]
          rfl
        rw [← h6, List.getElem?_take] at h7
        split at h7
        · rw [Nat.zero_add, ← Array.getElem?_toList]; exact h7
        · cases h7
  rcases hq with ⟨rfl, rfl⟩ | ⟨g, off, cap, cur, rfl, h1, h2, h3, h4, h5, h6⟩
  · obtain ⟨g, cap, w', hr, ho, hg⟩ := run_append_two (P := P) w w.heap.size t ty 3 i z 1 8 ht hi hz hsize hby hzs (by decide) (.slice none 0 0) 0 [] ⟨rfl, .inl ⟨rfl, rfl⟩⟩ ad c [.int .i64 x] rfl hnw (by intro u hu; simp at hu; subst hu; rfl) (by unfold maxLen; omega) (by omega) (Nat.le_refl _)
    have hg2 : w.grownBy w' none := by
      rcases hg with ⟨h, _⟩ | ⟨_, h⟩
      · cases h
      · exact h
    exact ⟨_, w', hr, fresh _ w' ho hg2⟩
  · by_cases hroom : W.length + 1 ≤ cap
    · have hcell : (w.cell? ⟨g, off + W.length, none⟩).isSome = true := by
        rw [cell_of_row w g _ cur 3 _ h2, Array.getElem?_eq_getElem (by omega)]; rfl
      have hr := run_append_room_cells (P := P) w t ty 3 i ht hi g off W.length cap ad 1 c [.int .i64 x] (by rw [hsize]; rfl) hnw (by intro u hu; simp at hu; subst hu; rfl) hroom
        (fun j hj => by have : j = 0 := by simpa using hj
                        subst this; rw [hsize, Nat.mul_one, Nat.add_zero]; exact hcell)
        (fun j hj => frozen_of_row w g _ cur 3 h2)
      have e : w.setCells g (off + W.length * i.size) [.int .i64 x] = w.setCell ⟨g, off + W.length, none⟩ (.int .i64 x) := by rw [hsize, Nat.mul_one]; rfl
      rw [e] at hr
      refine ⟨_, _, hr, ⟨g, off, cap, rfl, .inl rfl⟩, .inr ⟨g, off, cap, cur.setIfInBounds (off + W.length) (.int .i64 x), by simp, h1, heap_setCell_same w g _ cur 3 _ h2, by simp; omega, h4, by simp; omega, fun i y hi => ?_⟩, ⟨rfl, rfl, rfl, by simp, fun k _ hk => heap_setCell_other w ⟨g, off + W.length, none⟩ k _ fun e => hk (by rw [e]; rfl)⟩⟩
      by_cases hiw : i < W.length
      · rw [List.getElem?_append_left hiw] at hi
        rw [Array.getElem?_setIfInBounds_ne (by omega)]
        exact h6 i y hi
      · have hil : i = W.length := by
          have := (List.getElem?_eq_some_iff.1 hi).1
          simp at this
          omega
        subst hil
        rw [List.getElem?_append_right (Nat.le_refl _), Nat.sub_self] at hi
        simp at hi
        subst hi
        rw [Array.getElem?_setIfInBounds_self_of_lt (by omega)]
    · have holds : ∀ j u, (ints W)[j]? = some u → w.cell? ((⟨g, off, none⟩ : Addr).add j) = some u := by
        intro j u hu
        unfold ints at hu
        rw [List.getElem?_map] at hu
        cases hj : W[j]? with
        | none => rw [hj] at hu; cases hu
        | some y =>
          rw [hj] at hu
          cases hu
          rw [show ((⟨g, off, none⟩ : Addr).add j) = ⟨g, off + j, none⟩ from by unfold Addr.add; split <;> simp_all, cell_of_row w g _ cur 3 _ h2]
          exact h6 j y hj
      obtain ⟨v', w', hr, ho, hg⟩ := run_append_arg_grows (P := P) w t ty 3 i z 1 8 ht hi hz hsize hby hzs (by decide) ⟨g, off, none⟩ W.length cap (ints W) (by simp [ints]) holds ad 1 c [.int .i64 x] rfl hnw (by omega) (by unfold maxLen; omega) (by omega)
      exact ⟨v', w', hr, fresh v' w' ho hg⟩
/-- The same, as the walk takes it. -/
theorem wpList_append_q {P : Program} (w : World) {ops : Array Oper} {rest : List Oper} {o : Oper} {a : Act} {Q : Exit → Act → World → Prop} (hgd : o.guard = none) (s x : Operand) (t : TypeId)
    (ho : o.op = .call { callee := .builtin .append, args := #[s, x], argTypes := #[t, t] }) (base : Nat) (i : TypeInfo) (z : Value) (ht : P.underlying t = some (.slice 3)) (hi : P.info? 3 = some i) (hz : i.zero = some z)
    (hsize : i.size = 1) (hby : i.bytes = 8) (hzs : z.cells.size = 1) (v : Value) (W : List Int) (hs : a.eval s = v) (hq : Qr base w v W)
    (ad : Addr) (c : Nat) (y : Int) (hx : a.eval x = .slice (some ad) 1 c) (hnews : w.cell? (ad.add 0) = some (.int .i64 y)) (h63 : W.length + 1 ≤ 1000000) (hbase : base ≤ w.heap.size)
    (h : ∀ g o2 k w', (v.ownBlock = some g ∨ w.heap.size ≤ g) → Qr base w' (.slice (some ⟨g, o2, none⟩) (W.length + 1) k) (W ++ [y]) → w.grownBy w' v.ownBlock → wpList P ops Q rest (a.put o.dst (.slice (some ⟨g, o2, none⟩) (W.length + 1) k)) w') : wpList P ops Q (o :: rest) a w := by
  refine wpList_plain hgd fun K hK => ?_
  obtain ⟨v', w', hr, ⟨g, o2, k, rfl, h0⟩, h2, h3⟩ := run_append_q (P := P) w base t o.type i z ht hi hz hsize hby hzs v W hq ad c y hnews h63 hbase
  unfold Oper.wp execOp
  simp only [ho, resolve, invoke, builtin, Sem.run_bind, Sem.run_pure, Result.andThen_ok, List.map_toArray, List.map_cons, List.map_nil, hs, hx, hr]
  exact hK _ _ (h g o2 k w' h0 h2 h3)
end Go.Proofs.Ytdholifacnnjcaa
