/- A walk, deep first, in memory. -/
import Derived.Test.YtbdlgglbcaoakaaGreatPrDfs
import Derived.Deep.LoopGhost
namespace Go.Proofs.YtbdlgglbcaoakaaGreat.Pr
open Go.RowKit

/-! How much is to come. -/
def wg (z : Int) : Nat := if z = 0 then 2 else if z = 1 then 1 else 0
def wgt (st : List Int) : Nat := (st.map wg).sum
theorem sum_set {f : Int → Nat} {v : Int} : ∀ {l : List Int} {i : Nat}, i < l.length → ((l.set i v).map f).sum + f (l.getD i 0) = (l.map f).sum + f v
  | [], i, h => by simp at h
  | x :: r, 0, _ => by simp; omega
  | x :: r, i + 1, h => by
    have := sum_set (f := f) (v := v) (l := r) (i := i) (by simpa using h)
    simp only [List.set_cons_succ, List.map_cons, List.sum_cons, List.getD_cons_succ]
    omega
theorem wgt_open {st : List Int} {o : Nat} (ho : o < st.length) (h0 : st.getD o 0 = 0) : wgt (st.set o 1) + 1 = wgt st := by
  have := sum_set (f := wg) (v := 1) ho
  rw [h0] at this
  have h1 : wg 0 = 2 := rfl
  have h2 : wg 1 = 1 := rfl
  unfold wgt
  omega
theorem wgt_shut {st : List Int} {o : Nat} (ho : o < st.length) (h0 : st.getD o 0 = 1) : wgt (st.set o 2) + 1 = wgt st := by
  have := sum_set (f := wg) (v := 2) ho
  rw [h0] at this
  have h1 : wg 2 = 0 := rfl
  have h2 : wg 1 = 1 := rfl
  unfold wgt
  omega
/-- What was come to stays so. -/
def Mn (n : Nat) (s0 : List Int) (first : Nat) (st : List Int) : Prop := ∀ p, p < n → (s0.getD p 0 ≠ 0 ∨ p = first) → st.getD p 0 ≠ 0
theorem Mn.set {n : Nat} {s0 st : List Int} {first o : Nat} {v : Int} (h : Mn n s0 first st) (ho : o < st.length) (hv : v ≠ 0) : Mn n s0 first (st.set o v) := fun p hp hq => by
  rw [set_get ho]
  split
  · exact hv
  · exact h p hp hq
abbrev sl (g n : Nat) : Value := .slice (some ⟨g, 0, none⟩) n n
structure Dq (B W sb tb : Nat) (nv wv : Value) (n : Nat) (way : List Nat) (st tr : List Int) (w : World) : Prop where
  bx : Fx W 99 [nv, sl sb n, sl tb n] w
  fs : Fx sb 100 (ints st) w
  ft : Fx tb 3 (ints tr) w
  ro : w.ownsRow B 3 1 wv way.length (ints (zn way))
  nt : wv.ownBlock ≠ some tb
  lo : B ≤ W ∧ B ≤ sb ∧ B ≤ tb
section
variable {B W sb tb g m c : Nat} {nv wv : Value} {n : Nat} {way : List Nat} {st tr : List Int} {w w' : World}
theorem Dq.keep (h : Dq B W sb tb nv wv n way st tr w) (hk : ∀ k, (k = W ∨ k = sb ∨ k = tb ∨ wv.ownBlock = some k) → w'.heap[k]? = w.heap[k]?) : Dq B W sb tb nv wv n way st tr w' :=
  ⟨h.bx.keep (hk _ (.inl rfl)), h.fs.keep (hk _ (.inr (.inl rfl))), h.ft.keep (hk _ (.inr (.inr (.inl rfl)))), owns_keep h.ro fun g hg => hk g (.inr (.inr (.inr hg))), h.nt, h.lo⟩
theorem Dq.state (h : Dq B W sb tb nv wv n way st tr w) (o : Nat) (v : Int) : Dq B W sb tb nv wv n way (st.set o v) tr (w.setCell ⟨sb, o, none⟩ (.int .i64 v)) := by
  refine ⟨h.bx.keep (other_set (fx_ne h.bx h.fs (by decide))), by rw [← ints_set]; exact h.fs.set o _, h.ft.keep (other_set (fx_ne h.ft h.fs (by decide))), owns_keep h.ro fun g hg => other_set fun e => own_fx h.ro h.fs (by decide) (e ▸ hg), h.nt, h.lo⟩
theorem Dq.tried (h : Dq B W sb tb nv wv n way st tr w) (o : Nat) (v : Int) : Dq B W sb tb nv wv n way st (tr.set o v) (w.setCell ⟨tb, o, none⟩ (.int .i64 v)) := by
  refine ⟨h.bx.keep (other_set (fx_ne h.bx h.ft (by decide))), h.fs.keep (other_set (fx_ne h.fs h.ft (by decide))), by rw [← ints_set]; exact h.ft.set o _, owns_keep h.ro fun g hg => other_set fun e => h.nt (e ▸ hg), h.nt, h.lo⟩
theorem Dq.more (h : Dq B W sb tb nv wv n way st tr w) {k g4 cap4 : Nat} {ob : Obj} (hown : w'.ownsRow B 3 1 (.slice (some ⟨g4, 0, none⟩) (way.length + 1) cap4) (way.length + 1) (ints (zn way) ++ [.int .i64 k]))
    (hg : (wv.ownBlock = some g4 ∧ (w.alloc ob).grownBy w' (some g4)) ∨ (g4 = w.heap.size + 1 ∧ (w.alloc ob).grownBy w' none)) :
    Dq B W sb tb nv (.slice (some ⟨g4, 0, none⟩) (way.length + 1) cap4) n (way ++ [k]) st tr w' ∧ (B ≤ w.heap.size → Below B w w') := by
  have ho : ∀ k, k < w.heap.size → wv.ownBlock ≠ some k → w'.heap[k]? = w.heap[k]? := fun k hk hn => grown_old rfl hg hk hn
  refine ⟨⟨h.bx.keep (ho _ h.bx.lt (own_fx h.ro h.bx (by decide))), h.fs.keep (ho _ h.fs.lt (own_fx h.ro h.fs (by decide))), h.ft.keep (ho _ h.ft.lt h.nt), by rw [List.length_append, zn_snoc, ints_snoc]; exact hown, fun e => ?_, h.lo⟩, fun hB => ?_⟩
  · have e' : g4 = tb := by simpa [Value.ownBlock] using e
    rcases hg with ⟨e2, _⟩ | ⟨e2, _⟩
    · exact h.nt (e' ▸ e2)
    · have := h.ft.lt; omega
  · exact (grown_fr (Z := fun k => B ≤ k) rfl hg fun g e => (h.ro.lt g e).1).below fun k hk => ⟨by omega, by omega⟩
theorem Dq.pop (h : Dq B W sb tb nv (.slice (some ⟨g, 0, none⟩) m c) n way st tr w) (hm : way.length = m) (hp : 0 < m) : Dq B W sb tb nv (.slice (some ⟨g, 0, none⟩) (m - 1) c) n (way.take (way.length - 1)) st tr w := by
  refine ⟨h.bx, h.fs, h.ft, ?_, h.nt, h.lo⟩
  have hr := h.ro
  rw [hm] at hr
  have := owns_take (m := m - 1) hr (by omega) (by simp)
  have e1 : (way.take (way.length - 1)).length = m - 1 := by rw [List.length_take, hm]; omega
  rw [e1]
  have e2 : ints (zn (way.take (way.length - 1))) = (ints (zn way)).take ((m - 1) * 1) := by unfold ints zn; rw [Nat.mul_one, hm, List.map_take, List.map_take]
  rw [e2]
  exact this
theorem Dq.at (h : Dq B W sb tb nv wv n way st tr w) {i k : Nat} (hi : way[i]? = some k) : ∃ g c, wv = .slice (some ⟨g, 0, none⟩) way.length c ∧ way.length ≤ c ∧ w.cell? ⟨g, i, none⟩ = some (.int .i64 k) := by
  obtain ⟨g, c, e, hc, _, _⟩ := owns_at (owns_down h.ro (Nat.zero_le _)) (i := i) (x := .int .i64 k) (by unfold ints zn; rw [List.getElem?_map, List.getElem?_map, hi]; rfl)
  refine ⟨g, c, e, ?_, hc⟩
  rcases h.ro.2 with ⟨e2, _⟩ | ⟨_, _, _, e2, _, _, h5, _⟩
  · rw [e] at e2; cases e2
  · rw [e] at e2; simp only [Value.slice.injEq] at e2; omega
theorem Dq.slice (h : Dq B W sb tb nv wv n way st tr w) : ∃ a c, wv = .slice a way.length c := owns_slice h.ro
end
theorem infoS : (Tryz.prog.info? 100).map (fun i => (i.zero, i.size, i.bytes)) = some (some (.int .i64 0), 1, 8) := by kernel_rfl
end Go.Proofs.YtbdlgglbcaoakaaGreat.Pr
