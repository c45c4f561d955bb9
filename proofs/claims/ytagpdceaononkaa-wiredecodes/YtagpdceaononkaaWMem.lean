/- How things lie in memory: lists to be read, rows that grow, frames. -/
import Derived.Test.YtagpdceaononkaaOBase
import Derived.Test.YtagpdceaononkaaOPlain
import Derived.Deep.AppendLies
import Derived.Deep.AppendSrc
import Derived.BigFrame
import Derived.BigQuiet
import Derived.Deep.QuietTactic
import Derived.Deep.RegionWith
import Derived.Laws.MakeOwn
import Derived.Laws.Rows
import Derived.Carry
import Derived.Deep.Cut
import Derived.Deep.RegionHeld3
import Derived.KernelRfl
namespace Go.Proofs.Ytagpdceaononkaa
open Go.RowKit

theorem loc_lt {w : World} {q : Nat} {o : Obj} (h : w.heap[q]? = some o) : q < w.heap.size := by
  apply Classical.byContradiction
  intro hn
  rw [Array.getElem?_eq_none (by omega)] at h
  cases h
theorem below_drewN (w : World) (q : Nat) : Below w.heap.size w (w.drewN q) := ⟨rfl, rfl, rfl, Nat.le_refl _, fun _ _ => rfl⟩
theorem loc_set {w : World} {q T i : Nat} {cs : Array Value} {v : Value} (h : w.heap[q]? = some (.cells cs T (0, 0))) : (w.setCell ⟨q, i, none⟩ v).heap[q]? = some (.cells (cs.setIfInBounds i v) T (0, 0)) := heap_setCell_same w q i cs T v h
abbrev ptr (B : Nat) : Value := .pointer (some ⟨B, 0, none⟩)

structure Fr (Z : Nat → Prop) (w w' : World) : Prop where
  os : w'.os = w.os
  tape : w'.tape = w.tape
  output : w'.output = w.output
  size : w.heap.size ≤ w'.heap.size
  block : ∀ k, k < w.heap.size → ¬ Z k → w'.heap[k]? = w.heap[k]?
theorem Fr.refl (Z : Nat → Prop) (w : World) : Fr Z w w := ⟨rfl, rfl, rfl, Nat.le_refl _, fun _ _ _ => rfl⟩
theorem Fr.trans {Z : Nat → Prop} {a b c : World} (h : Fr Z a b) (k : Fr Z b c) : Fr Z a c :=
  ⟨k.os.trans h.os, k.tape.trans h.tape, k.output.trans h.output, Nat.le_trans h.size k.size, fun i hi hz => (k.block i (Nat.lt_of_lt_of_le hi h.size) hz).trans (h.block i hi hz)⟩
theorem Fr.of_below {Z : Nat → Prop} {w w' : World} (h : Below w.heap.size w w') : Fr Z w w' := ⟨h.os, h.tape, h.output, h.size, fun k hk _ => h.block k hk⟩
theorem Fr.of_grown {Z : Nat → Prop} {w w' : World} {row : Option Nat} (h : w.grownBy w' row) (hz : ∀ k, row = some k → Z k) : Fr Z w w' :=
  ⟨h.os, h.tape, h.output, h.size, fun k hk hn => h.block k hk fun e => hn (hz k e.symm)⟩
theorem Fr.setCell {Z : Nat → Prop} {w : World} (p : Addr) (v : Value) (hz : Z p.block) : Fr Z w (w.setCell p v) :=
  ⟨rfl, rfl, rfl, by simp, fun k _ hn => heap_setCell_other w p k v fun e => hn (e ▸ hz)⟩
theorem Fr.below {Z : Nat → Prop} {w w' : World} (h : Fr Z w w') {n : Nat} (hn : ∀ k, k < n → k < w.heap.size ∧ ¬ Z k) : Below n w w' := ⟨h.os, h.tape, h.output, h.size, fun k hk => h.block k (hn k hk).1 (hn k hk).2⟩
theorem Fr.mono {Z Z' : Nat → Prop} {w w' : World} (h : Fr Z w w') (hz : ∀ k, k < w.heap.size → Z k → Z' k) : Fr Z' w w' := ⟨h.os, h.tape, h.output, h.size, fun k hk hn => h.block k hk fun e => hn (hz k hk e)⟩

/-- A list of things that may be read: k cells a thing, in blocks below N. -/
def RR {α : Type} (N k : Nat) (c : World → α → List Value → Prop) (w : World) (l : List α) (v : Value) : Prop :=
  ∃ a cap, v = .slice a l.length cap ∧ l.length ≤ cap ∧ l.length ≤ 140737488351232 ∧ ∀ i x, l[i]? = some x → ∃ g o xs, a = some ⟨g, o, none⟩ ∧ g < N ∧ xs.length = k ∧ (∀ j u, xs[j]? = some u → w.cell? ⟨g, o + i * k + j, none⟩ = some u) ∧ c w x xs

section
variable {α : Type} {N N' k : Nat} {c c' : World → α → List Value → Prop} {w w' : World} {l : List α} {v : Value}
theorem RR.keep (h : RR N k c w l v) (hb : ∀ g, g < N → w'.heap[g]? = w.heap[g]?) (hc : ∀ a xs, c w a xs → c w' a xs) : RR N k c w' l v := by
  obtain ⟨a, cap, e, hcap, hl, h⟩ := h
  refine ⟨a, cap, e, hcap, hl, fun i x hi => ?_⟩
  obtain ⟨g, o, xs, ea, hg, hxs, hcell, hx⟩ := h i x hi
  exact ⟨g, o, xs, ea, hg, hxs, fun j u hu => (World.cell?_of_block (hb g hg)).trans (hcell j u hu), hc _ _ hx⟩
theorem RR.up (h : RR N k c w l v) (hn : N ≤ N') (hc : ∀ a xs, c w a xs → c' w a xs) : RR N' k c' w l v := by
  obtain ⟨a, cap, e, hcap, hl, h⟩ := h
  refine ⟨a, cap, e, hcap, hl, fun i x hi => ?_⟩
  obtain ⟨g, o, xs, ea, hg, hxs, hcell, hx⟩ := h i x hi
  exact ⟨g, o, xs, ea, Nat.lt_of_lt_of_le hg hn, hxs, hcell, hc _ _ hx⟩
theorem RR.form (h : RR N k c w l v) : ∃ a cap, v = .slice a l.length cap ∧ l.length ≤ cap ∧ l.length ≤ 140737488351232 := by
  obtain ⟨a, cap, e, hcap, hl, _⟩ := h
  exact ⟨a, cap, e, hcap, hl⟩
/-- The first of them. -/
theorem RR.take (h : RR N k c w l v) (n : Nat) (hn : n ≤ l.length) : ∀ a len cap, v = .slice a len cap → RR N k c w (l.take n) (.slice a n cap) := by
  rintro a len cap rfl
  obtain ⟨a', cap', e, hcap, hl, h⟩ := h
  cases e
  have hln : (l.take n).length = n := by simp; omega
  refine ⟨a, cap, by rw [hln], by rw [hln]; omega, by rw [hln]; omega, fun i x hi => ?_⟩
  rw [List.getElem?_take] at hi
  by_cases hin : i < n
  · rw [if_pos hin] at hi
    exact h i x hi
  · rw [if_neg hin] at hi; cases hi
end

section
variable {N N' : Nat} (hN : N ≤ N') {w : World}
include hN
theorem RR.mono {α : Type} {k : Nat} {c : World → α → List Value → Prop} {c' : World → α → List Value → Prop} {l : List α} {v : Value} (h : RR N k c w l v) (hc : ∀ x xs, c w x xs → c' w x xs) : RR N' k c' w l v := by
  obtain ⟨a, cap, e, hcap, hl, h⟩ := h
  refine ⟨a, cap, e, hcap, hl, fun i x hi => ?_⟩
  obtain ⟨g, o, xs, h1, h2, h3, h4, h5⟩ := h i x hi
  exact ⟨g, o, xs, h1, Nat.lt_of_lt_of_le h2 hN, h3, h4, hc _ _ h5⟩
end
section
variable {w W : World} (hb : Below w.heap.size w W)
include hb
theorem RR.go {α : Type} {k : Nat} {c c' : World → α → List Value → Prop} {l : List α} {v : Value} (h : RR w.heap.size k c w l v) (hc : ∀ a xs, c w a xs → c' W a xs) : RR W.heap.size k c' W l v := by
  obtain ⟨a, cap, e, hcap, hl, h⟩ := h
  refine ⟨a, cap, e, hcap, hl, fun i x hi => ?_⟩
  obtain ⟨g, o, xs, ea, hg, hxs, hcell, hx⟩ := h i x hi
  exact ⟨g, o, xs, ea, Nat.lt_of_lt_of_le hg hb.size, hxs, fun j u hu => (World.cell?_of_block (hb.block g hg)).trans (hcell j u hu), hc _ _ hx⟩
end
theorem info_parts' {P : Program} {e : Nat} {z : Option Value} {k b : Nat} (h : (P.info? e).map (fun i => (i.zero, i.size, i.bytes)) = some (z, k, b)) : ∃ i, P.info? e = some i ∧ i.zero = z ∧ i.size = k ∧ i.bytes = b := by
  cases hi : P.info? e with
  | none => rw [hi] at h; cases h
  | some i => rw [hi] at h; simp at h; exact ⟨i, rfl, h⟩
theorem news_at {w : World} {cs : List Value} {t : Nat} {g : Nat} (hg : g = w.heap.size) : ∀ j u, cs[j]? = some u → (w.alloc (.cells cs.toArray t)).cell? ((⟨g, 0, none⟩ : Addr).add j) = some u := by
  subst hg
  intro j u hu
  rw [show ((⟨w.heap.size, 0, none⟩ : Addr).add j) = ⟨w.heap.size, j, none⟩ from by unfold Addr.add; split <;> simp_all, cell_of_row _ _ _ _ t _ (heap_alloc_new w _)]
  simpa using hu
theorem owns_keep {w w' : World} {base e k : Nat} {v : Value} {n : Nat} {xs : List Value} (h : w.ownsRow base e k v n xs) (hb : ∀ g, v.ownBlock = some g → w'.heap[g]? = w.heap[g]?) : w'.ownsRow base e k v n xs := by
  obtain ⟨h1, h2⟩ := h
  refine ⟨h1, ?_⟩
  rcases h2 with h2 | ⟨g, cap, cur, rfl, h3, h4, h5⟩
  · exact .inl h2
  · exact .inr ⟨g, cap, cur, rfl, h3, (hb g rfl).trans h4, h5⟩
theorem owns_slice {w : World} {base e k : Nat} {v : Value} {n : Nat} {xs : List Value} (h : w.ownsRow base e k v n xs) : ∃ a c, v = .slice a n c := by
  rcases h.2 with ⟨h1, h2⟩ | ⟨g, cap, cur, h1, _⟩
  · exact ⟨none, 0, by rw [h1, h2]⟩
  · exact ⟨_, _, h1⟩
theorem owns_lt {w : World} {base e k : Nat} {v : Value} {n : Nat} {xs : List Value} (h : w.ownsRow base e k v n xs) {g : Nat} (hg : v.ownBlock = some g) : g < w.heap.size := (h.lt g hg).2
theorem owns_at {w : World} {e : Nat} {v : Value} {n : Nat} {xs : List Value} (h : w.ownsRow 0 e 1 v n xs) {i : Nat} {x : Value} (hx : xs[i]? = some x) : ∃ g c, v = .slice (some ⟨g, 0, none⟩) n c ∧ w.cell? ⟨g, i, none⟩ = some x ∧ (∀ j, w.frozen? ⟨g, j, none⟩ = false) ∧ i < n := by
  obtain ⟨h1, h2⟩ := h
  have hi : i < xs.length := by
    apply Classical.byContradiction
    intro hn
    rw [List.getElem?_eq_none (by omega)] at hx
    cases hx
  rcases h2 with ⟨rfl, rfl⟩ | ⟨g, cap, cur, rfl, h3, h4, h5, h6, h7, h8⟩
  · omega
  · refine ⟨g, cap, rfl, ?_, fun j => frozen_of_row w g j cur e h4, by omega⟩
    rw [cell_of_row w g i cur e _ h4, ← Array.getElem?_toList]
    rw [← h8, List.getElem?_take] at hx
    split at hx
    · exact hx
    · cases hx

theorem grown_old {w w1 w2 : World} {o : Obj} {tv : Value} {g k : Nat} (hw : w1 = w.alloc o) (hg : (tv.ownBlock = some g ∧ w1.grownBy w2 (some g)) ∨ (g = w.heap.size + 1 ∧ w1.grownBy w2 none)) (hk : k < w.heap.size) (hn : tv.ownBlock ≠ some k) : w2.heap[k]? = w.heap[k]? := by
  have hk1 : k < w1.heap.size := by rw [hw]; simp; omega
  have e1 : w1.heap[k]? = w.heap[k]? := by rw [hw]; exact Below.heap_alloc w o k hk
  rcases hg with ⟨h1, h2⟩ | ⟨_, h2⟩
  · rw [h2.block k hk1 (fun e => hn (by rw [h1, e])), e1]
  · rw [h2.block k hk1 (by simp), e1]
theorem grown_fr {Z : Nat → Prop} {w w1 w2 : World} {o : Obj} {tv : Value} {g : Nat} (hw : w1 = w.alloc o) (hg : (tv.ownBlock = some g ∧ w1.grownBy w2 (some g)) ∨ (g = w.heap.size + 1 ∧ w1.grownBy w2 none)) (hz : ∀ g, tv.ownBlock = some g → Z g) : Fr Z w w2 := by
  have h1 : Fr Z w w1 := by rw [hw]; exact .of_below ((Below.refl _ _).alloc (Nat.le_refl _) _)
  rcases hg with ⟨h1', h2⟩ | ⟨_, h2⟩
  · exact h1.trans (.of_grown h2 fun k e => by cases e; exact hz _ h1')
  · exact h1.trans (.of_grown h2 fun k e => by cases e)

theorem own_ne {w : World} {q e e2 : Nat} {v : Value} {n : Nat} {xs : List Value} {cs : Array Value} (h : w.ownsRow 0 e 1 v n xs) (hq : w.heap[q]? = some (.cells cs e2 (0, 0))) (hne : e ≠ e2) : v.ownBlock ≠ some q := by
  intro hg
  rcases h.2 with ⟨h1, _⟩ | ⟨g', _, cur, h1, _, h3, _⟩
  · rw [h1] at hg; cases hg
  · rw [h1] at hg; cases hg; rw [hq] at h3; cases h3; exact hne rfl
theorem own_ne2 {w : World} {e e2 : Nat} {v u : Value} {n m : Nat} {xs ys : List Value} (h : w.ownsRow 0 e 1 v n xs) (hq : w.ownsRow 0 e2 1 u m ys) (hne : e ≠ e2) {g : Nat} (hg : u.ownBlock = some g) : v.ownBlock ≠ some g := by
  rcases hq.2 with ⟨h1, _⟩ | ⟨g', _, cur, h1, _, h3, _⟩
  · rw [h1] at hg; cases hg
  · rw [h1] at hg; cases hg
    exact own_ne h h3 hne
theorem owns_down {w : World} {b b' e k n : Nat} {u : Value} {xs : List Value} (h : w.ownsRow b e k u n xs) (hb : b' ≤ b) : w.ownsRow b' e k u n xs := by
  obtain ⟨h1, h2⟩ := h
  refine ⟨h1, ?_⟩
  rcases h2 with h2 | ⟨g, cap, cur, e, hg, h4⟩
  · exact .inl h2
  · exact .inr ⟨g, cap, cur, e, Nat.le_trans hb hg, h4⟩
section
variable {N : Nat} {w : World} {a : Option Addr} {n c i : Nat}
theorem RR.open {α : Type} {k : Nat} {cc : World → α → List Value → Prop} {l : List α} (h : RR N k cc w l (.slice a n c)) {x : α} (hx : l[i]? = some x) :
    ∃ g o xs, a = some ⟨g, o, none⟩ ∧ g < N ∧ xs.length = k ∧ (∀ j u, xs[j]? = some u → w.cell? ⟨g, o + i * k + j, none⟩ = some u) ∧ cc w x xs := by
  obtain ⟨a', c', e, _, _, h⟩ := h
  cases e
  exact h i x hx
end
theorem run_append_two {P : Program} (w : World) (base : Nat) (t ty e : TypeId) (i : TypeInfo) (z : Value) (size bytes : Nat) (ht : P.underlying t = some (.slice e)) (hi : P.info? e = some i) (hz : i.zero = some z)
    (hsize : i.size = size) (hby : i.bytes = bytes) (hzs : z.cells.size = size) (hsz : 0 < size)
    (v : Value) (n : Nat) (xs : List Value) (hown : w.ownsRow base e size v n xs)
    (ad : Addr) (c : Nat) (news : List Value) (hl : news.length = size) (hnews : ∀ j u, news[j]? = some u → w.cell? (ad.add j) = some u) (h1 : ∀ u ∈ news, u.oneCell' = true)
    (h63 : n + 1 ≤ maxLen) (hbytes : (n + 1) * bytes ≤ 140737488355328) (hbase : base ≤ w.heap.size) :
    ∃ g cap w', (Builtin.append_ #[t, t] ty #[v, .slice (some ad) 1 c]).run P w = .ok (.slice (some ⟨g, 0, none⟩) (n + 1) cap) w' ∧
      w'.ownsRow base e size (.slice (some ⟨g, 0, none⟩) (n + 1) cap) (n + 1) (xs ++ news) ∧ ((v.ownBlock = some g ∧ w.grownBy w' (some g)) ∨ (g = w.heap.size ∧ w.grownBy w' none)) := by
  subst hsize
  subst hby
  have hsmall : n + 1 ≤ 9223372036854775807 := by simp only [maxLen] at h63; omega
  have hl' : news.length = 1 * i.size := by omega
  have hlen : (xs ++ news).length = (n + 1) * i.size := by rw [List.length_append, hown.1, hl, Nat.add_mul]; omega
  have fresh : ∀ (old : Nat), old < n + 1 →
      (w.drew.alloc (.cells (xs.toArray ++ news.toArray ++ Builtin.zeroCells z.cells (grownCap w (n + 1) old e - (n + 1))) e)).ownsRow base e i.size (.slice (some ⟨w.heap.size, 0, none⟩) (n + 1) (grownCap w (n + 1) old e)) (n + 1) (xs ++ news) ∧
      w.grownBy (w.drew.alloc (.cells (xs.toArray ++ news.toArray ++ Builtin.zeroCells z.cells (grownCap w (n + 1) old e - (n + 1))) e)) none := by
    intro old ho
    have hge := grownCap_ge w (n + 1) old e
    refine ⟨⟨hlen, .inr ⟨w.heap.size, _, _, rfl, hbase, heap_alloc_new w.drew _, hge, grownCap_le_maxLen w (n + 1) old e h63, ?_, ?_⟩⟩, ⟨rfl, rfl, rfl, by simp, fun k hk _ => Go.heap_alloc_old w.drew _ hk⟩⟩
    · simp only [Array.size_append, List.size_toArray, size_zeroCells, hzs, hown.1, hl]
      have : grownCap w (n + 1) old e = (n + 1) + (grownCap w (n + 1) old e - (n + 1)) := by omega
      generalize grownCap w (n + 1) old e - (n + 1) = r at *
      rw [this, Nat.add_mul, Nat.add_mul]
      omega
    · simp only [Array.toList_append, List.append_assoc]
      rw [← List.append_assoc, ← hlen]
      exact List.take_left
  rcases hown.2 with ⟨rfl, rfl⟩ | ⟨g, cap, cur, rfl, hbg, hg, hnc, hcm, hcs, htake⟩
  · have hx : xs = [] := List.eq_nil_of_length_eq_zero (by simpa using hown.1)
    subst hx
    have hr := run_append_nil (P := P) w t ty e i z ht hi hz ad 1 c news hl' hnews (by omega) (by omega) (by have hb := hbytes; simp only [Nat.zero_add] at hb; omega)
    have hgr := fresh 0 (by omega)
    simp only [Nat.zero_add, List.nil_append, Array.empty_append] at hgr ⊢
    exact ⟨_, _, _, hr, hgr.1, .inr ⟨rfl, hgr.2⟩⟩
  · by_cases hroom : n + 1 ≤ cap
    · have hfit : n * i.size + news.length ≤ cur.size := by
        rw [hl, hcs]
        have := Nat.mul_le_mul_right i.size hroom
        rw [Nat.add_mul] at this; omega
      have hr := run_append_room (P := P) w t ty e i ht hi g n cap cur hg ad 1 c news hl' hnews h1 hroom hfit
      refine ⟨_, _, _, hr, ⟨hlen, .inr ⟨g, cap, _, rfl, hbg, setRow_heap w g cur _ e _ hg, hroom, hcm, ?_, ?_⟩⟩, .inl ⟨rfl, ⟨rfl, rfl, rfl, by simp, fun k _ hk => setRow_other w g k _ (fun e => hk (by simp [e]))⟩⟩⟩
      · simp only [List.size_toArray, List.length_append, List.length_take, List.length_drop, Array.length_toList]
        omega
      · rw [htake, ← hlen]
        exact List.take_left
    · have holds : ∀ j u, xs[j]? = some u → w.cell? ((⟨g, 0, none⟩ : Addr).add j) = some u := hown.cells (g := g) rfl
      have hr := run_append_grow (P := P) w t ty e i z ht hi hz ⟨g, 0, none⟩ n cap xs hown.1 holds ad 1 c news hl' hnews (by omega) (by omega) (growslice_fits (by omega) hbytes)
      have hgr := fresh cap (by omega)
      exact ⟨_, _, _, hr, hgr.1, .inr ⟨rfl, hgr.2⟩⟩

/-- The same, as the walk takes it. -/
theorem wpList_append_two {P : Program} (w : World) {ops : Array Oper} {rest : List Oper} {o : Oper} {a : Act} {Q : Exit → Act → World → Prop} (hgd : o.guard = none) (s x : Operand) (t : TypeId)
    (ho : o.op = .call { callee := .builtin .append, args := #[s, x], argTypes := #[t, t] }) (base : Nat) (e : TypeId) (i : TypeInfo) (z : Value) (size bytes : Nat) (ht : P.underlying t = some (.slice e)) (hi : P.info? e = some i) (hz : i.zero = some z)
    (hsize : i.size = size) (hby : i.bytes = bytes) (hzs : z.cells.size = size) (hsz : 0 < size)
    (v : Value) (n : Nat) (xs : List Value) (hs : a.eval s = v) (hown : w.ownsRow base e size v n xs)
    (ad : Addr) (c : Nat) (news : List Value) (hx : a.eval x = .slice (some ad) 1 c) (hl : news.length = size) (hnews : ∀ j u, news[j]? = some u → w.cell? (ad.add j) = some u) (h1 : ∀ u ∈ news, u.oneCell' = true)
    (h63 : n + 1 ≤ maxLen) (hbytes : (n + 1) * bytes ≤ 140737488355328) (hbase : base ≤ w.heap.size)
    (h : ∀ g cap w', w'.ownsRow base e size (.slice (some ⟨g, 0, none⟩) (n + 1) cap) (n + 1) (xs ++ news) → ((v.ownBlock = some g ∧ w.grownBy w' (some g)) ∨ (g = w.heap.size ∧ w.grownBy w' none)) → wpList P ops Q rest (a.put o.dst (.slice (some ⟨g, 0, none⟩) (n + 1) cap)) w') : wpList P ops Q (o :: rest) a w := by
  refine wpList_plain hgd fun K hK => ?_
  obtain ⟨g, cap, w', hr, h2, h3⟩ := run_append_two (P := P) w base t o.type e i z size bytes ht hi hz hsize hby hzs hsz v n xs hown ad c news hl hnews h1 h63 hbytes hbase
  unfold Oper.wp execOp
  simp only [ho, resolve, invoke, builtin, Sem.run_bind, Sem.run_pure, Result.andThen_ok, List.map_toArray, List.map_cons, List.map_nil, hs, hx, hr]
  exact hK _ _ (h g cap w' h2 h3)

theorem grown_row {w : World} {base : Nat} (hbase : base ≤ w.heap.size) {e : TypeId} {z : Value} {k n m old : Nat} {xs news : List Value} (hz : z.cells.size = k) (hx : xs.length = n * k) (hn : news.length = m * k) (hlim : n + m ≤ maxLen) (row : Option Nat) :
    (w.drew.alloc (.cells ((xs ++ news).toArray ++ Builtin.zeroCells z.cells (grownCap w (n + m) old e - (n + m))) e)).ownsRow base e k (.slice (some ⟨w.heap.size, 0, none⟩) (n + m) (grownCap w (n + m) old e)) (n + m) (xs ++ news) ∧
      w.grownBy (w.drew.alloc (.cells ((xs ++ news).toArray ++ Builtin.zeroCells z.cells (grownCap w (n + m) old e - (n + m))) e)) row := by
  have hge := grownCap_ge w (n + m) old e
  have hle := grownCap_le_maxLen w (n + m) old e hlim
  have hlen : (xs ++ news).length = (n + m) * k := by rw [List.length_append, Nat.add_mul]; omega
  constructor
  · refine ⟨hlen, .inr ⟨w.heap.size, _, _, rfl, hbase, heap_alloc_new w.drew _, hge, hle, ?_, ?_⟩⟩
    · rw [Array.size_append, size_zeroCells, hz]
      simp only [List.size_toArray, hlen]
      generalize grownCap w (n + m) old e = c at *
      rw [← Nat.add_mul]
      congr 1
      omega
    · rw [Array.toList_append, ← hlen]
      exact List.take_left
  · exact ⟨rfl, rfl, rfl, by simp, fun k hk _ => Go.heap_alloc_old w.drew _ hk⟩

theorem run_append_src {P : Program} (w : World) {base : Nat} (hbase : base ≤ w.heap.size) (t tx ty e : TypeId) (i : TypeInfo) (z : Value) (k b : Nat) (ht : P.underlying t = some (.slice e)) (hi : P.info? e = some i) (hz : i.zero = some z) (hs1 : i.size = k) (hb1 : i.bytes = b) (hzc : z.cells.size = k)
    (v : Value) (n : Nat) (xs : List Value) (hown : w.ownsRow base e k v n xs) (x : Value) (m : Nat) (news : List Value) (hsrc : Src P k tx x m news w) (h63 : n + m ≤ maxLen) (hby : (n + m) * b ≤ 140737488355328) :
    ∃ v' w', (Builtin.append_ #[t, tx] ty #[v, x]).run P w = .ok v' w' ∧ w'.ownsRow base e k v' (n + m) (xs ++ news) ∧ w.grownBy w' v.ownBlock ∧ (∀ g, v'.ownBlock = some g → v.ownBlock = some g ∨ w.heap.size ≤ g) := by
  have hsm : n + m ≤ 9223372036854775807 := by simp only [maxLen] at h63; omega
  have hxl : xs.length = n * k := hown.1
  have hnl : news.length = m * k := hsrc.newsLen
  have hsrc' : Src P i.size tx x m news w := by rw [hs1]; exact hsrc
  have hmb : (n + m) * i.bytes ≤ 140737488355328 := by
    rw [hb1]
    exact hby
  have hfit : ∀ old, old < n + m → Builtin.nextslicecap (n + m) old * i.bytes ≤ 281474976710656 := fun old ho => growslice_fits ho hmb
  rcases hown.2 with ⟨rfl, rfl⟩ | ⟨g, cap, cur, rfl, hbg, hg, hnc, hcm, hcs, htake⟩
  · have hx0 : xs = [] := List.eq_nil_of_length_eq_zero (by omega)
    subst hx0
    by_cases hm : m = 0
    · subst hm
      have hn0 : news = [] := List.eq_nil_of_length_eq_zero (by omega)
      subst hn0
      refine ⟨.slice none 0 0, w, ?_, World.ownsRow_nil w base e k, ⟨rfl, rfl, rfl, Nat.le_refl _, fun _ _ _ => rfl⟩, fun g e => .inl e⟩
      rcases hsrc'.kind with ⟨e', hk⟩ | hk <;> simp [Builtin.append_, run_underlying ht, run_underlying hk, sizeOf, typeInfo, hi, hsrc'.len, hsrc'.cells]
    · have hr := run_append_grow_src (P := P) w t tx ty e i z ht hi hz none 0 0 [] (run_firstCells_none w.drew i.size 0 0 0) x m news hsrc' (by omega) (by omega) (hfit 0 (by omega))
      have hgr := grown_row hbase (w := w) (e := e) (old := 0) hzc hxl hnl (by omega) (Value.ownBlock (.slice none 0 0))
      exact ⟨_, _, hr, hgr.1, hgr.2, fun g e => .inr (by simp [Value.ownBlock] at e; omega)⟩
  · by_cases hroom : n + m ≤ cap
    · have hrk : n * k + m * k ≤ cap * k := by rw [← Nat.add_mul]; exact Nat.mul_le_mul_right k hroom
      have hst := run_storeCells_at P g (n * i.size) e news 0 cur w hg (by rw [hs1]; omega) hsrc.one
      simp only [Nat.add_zero] at hst
      refine ⟨.slice (some ⟨g, 0, none⟩) (n + m) cap, w.setRow g (cur.toList.take (n * i.size) ++ news ++ cur.toList.drop (n * i.size + news.length)).toArray, ?_, ?_, ?_, fun g e => .inl e⟩
      · rcases hsrc'.kind with ⟨e', hk⟩ | hk <;> simp [Builtin.append_, run_underlying ht, run_underlying hk, sizeOf, typeInfo, hi, hsrc'.len, hroom, hsrc'.cells, Addr.add_lit, hst]
      · have hlen : (xs ++ news).length = (n + m) * k := by rw [List.length_append, Nat.add_mul]; omega
        refine ⟨hlen, .inr ⟨g, cap, _, rfl, hbg, setRow_heap w g cur _ e _ hg, hroom, hcm, ?_, ?_⟩⟩
        · simp only [List.size_toArray, List.length_append, List.length_take, List.length_drop, Array.length_toList, hs1, hnl] at hcs ⊢
          omega
        · rw [hs1, htake, ← hlen]
          exact List.take_left
      · exact ⟨rfl, rfl, rfl, by simp [World.setRow], fun k _ hk => setRow_other w g k _ (fun e => hk (by simp [Value.ownBlock, e]))⟩
    · have hold := run_firstCells_some (P := P) w.drew i.size n ⟨g, 0, none⟩ n cap xs (by rw [hs1]; omega) (by simpa using hown.cells (g := g) rfl)
      have hr := run_append_grow_src (P := P) w t tx ty e i z ht hi hz (some ⟨g, 0, none⟩) n cap xs hold x m news hsrc' (by omega) (by omega) (hfit cap (by omega))
      have hgr := grown_row hbase (w := w) (e := e) (old := cap) hzc hxl hnl (by omega) (Value.ownBlock (.slice (some ⟨g, 0, none⟩) n cap))
      exact ⟨_, _, hr, hgr.1, hgr.2, fun g e => .inr (by simp [Value.ownBlock] at e; omega)⟩

/-- The same, as the walk takes it. -/
theorem wpList_append_src {P : Program} (w : World) {base : Nat} (hbase : base ≤ w.heap.size) {ops : Array Oper} {rest : List Oper} {o : Oper} {a : Act} {Q : Exit → Act → World → Prop} (hgd : Region.wanted o (yielded ops a.tmps) = true) (s x : Operand) (t tx : TypeId)
    (ho : o.op = .call { callee := .builtin .append, args := #[s, x], argTypes := #[t, tx] }) (e : TypeId) (i : TypeInfo) (z : Value) (k b : Nat) (ht : P.underlying t = some (.slice e)) (hi : P.info? e = some i) (hz : i.zero = some z) (hs1 : i.size = k) (hb1 : i.bytes = b) (hzc : z.cells.size = k)
    (v : Value) (n : Nat) (xs : List Value) (hs : a.eval s = v) (hown : w.ownsRow base e k v n xs) (y : Value) (m : Nat) (news : List Value) (hx : a.eval x = y) (hsrc : Src P k tx y m news w) (h63 : n + m ≤ maxLen) (hby : (n + m) * b ≤ 140737488355328)
    (h : ∀ v' w', w'.ownsRow base e k v' (n + m) (xs ++ news) → w.grownBy w' v.ownBlock → (∀ g, v'.ownBlock = some g → v.ownBlock = some g ∨ w.heap.size ≤ g) → wpList P ops Q rest (a.put o.dst v') w') : wpList P ops Q (o :: rest) a w := by
  refine BigFrame.wpList_want hgd fun K hK => ?_
  obtain ⟨v', w', hr, h2, h3, h4⟩ := run_append_src (P := P) w hbase t tx o.type e i z k b ht hi hz hs1 hb1 hzc v n xs hown y m news hsrc h63 hby
  unfold Oper.wp execOp
  simp only [ho, resolve, invoke, builtin, Sem.run_bind, Sem.run_pure, Result.andThen_ok, List.map_toArray, List.map_cons, List.map_nil, hs, hx, hr]
  exact hK _ _ (h v' w' h2 h3 h4)
/-- A list of things that may be read, in blocks of Z. -/
def RZ {α : Type} (Z : Nat → Prop) (k : Nat) (c : World → α → List Value → Prop) (w : World) (l : List α) (v : Value) : Prop :=
  ∃ a cap, v = .slice a l.length cap ∧ l.length ≤ cap ∧ l.length ≤ 140737488351232 ∧ ∀ i x, l[i]? = some x → ∃ g o xs, a = some ⟨g, o, none⟩ ∧ Z g ∧ xs.length = k ∧ (∀ j u, xs[j]? = some u → w.cell? ⟨g, o + i * k + j, none⟩ = some u) ∧ c w x xs
/-- Blocks of Z stay, and are of Z'. -/
def Ag (Z Z' : Nat → Prop) (w w' : World) : Prop := ∀ g, Z g → Z' g ∧ w'.heap[g]? = w.heap[g]?
section
variable {α : Type} {Z Z' : Nat → Prop} {N k : Nat} {c c' : World → α → List Value → Prop} {w w' : World} {l : List α} {v : Value}
theorem RZ.keep (h : RZ Z k c w l v) (hb : Ag Z Z' w w') (hc : ∀ a xs, c w a xs → c' w' a xs) : RZ Z' k c' w' l v := by
  obtain ⟨a, cap, e, hcap, hl, h⟩ := h
  refine ⟨a, cap, e, hcap, hl, fun i x hi => ?_⟩
  obtain ⟨g, o, xs, ea, hg, hxs, hcell, hx⟩ := h i x hi
  exact ⟨g, o, xs, ea, (hb g hg).1, hxs, fun j u hu => (World.cell?_of_block (hb g hg).2).trans (hcell j u hu), hc _ _ hx⟩
theorem RZ.rr (h : RZ Z k c w l v) (hz : ∀ g, Z g → g < N) (hc : ∀ a xs, c w a xs → c' w a xs) : RR N k c' w l v := by
  obtain ⟨a, cap, e, hcap, hl, h⟩ := h
  refine ⟨a, cap, e, hcap, hl, fun i x hi => ?_⟩
  obtain ⟨g, o, xs, ea, hg, hxs, hcell, hx⟩ := h i x hi
  exact ⟨g, o, xs, ea, hz g hg, hxs, hcell, hc _ _ hx⟩
theorem RZ.form (h : RZ Z k c w l v) : ∃ a cap, v = .slice a l.length cap := by
  obtain ⟨a, cap, e, _⟩ := h
  exact ⟨a, cap, e⟩
theorem RZ.of_owns {b : Nat} {e : TypeId} {xs : List Value} (h : w.ownsRow b e k v l.length xs) (hz : ∀ g, v.ownBlock = some g → Z g) (hl : l.length ≤ 140737488351232) (hc : ∀ i x, l[i]? = some x → c w x ((xs.drop (i * k)).take k)) : RZ Z k c w l v := by
  obtain ⟨h1, h2⟩ := h
  rcases h2 with ⟨rfl, h0⟩ | ⟨g, cap, cur, rfl, _, hg, hcap, _, hcs, htk⟩
  · have : l = [] := List.eq_nil_of_length_eq_zero h0
    subst this
    exact ⟨_, _, rfl, Nat.le_refl _, Nat.zero_le _, fun i x hi => by simp at hi⟩
  · refine ⟨_, cap, rfl, hcap, hl, fun i x hi => ⟨g, 0, (xs.drop (i * k)).take k, rfl, hz g rfl, ?_, ?_, hc i x hi⟩⟩
    · have hil : i < l.length := by
        apply Classical.byContradiction
        intro hn
        rw [List.getElem?_eq_none (by omega)] at hi
        cases hi
      have : (i + 1) * k ≤ l.length * k := Nat.mul_le_mul_right k hil
      rw [Nat.add_mul] at this
      simp [h1]
      omega
    · intro j u hu
      rw [List.getElem?_take] at hu
      split at hu
      · rw [List.getElem?_drop, ← htk, List.getElem?_take] at hu
        split at hu
        · rw [Nat.zero_add, cell_of_row w g _ _ _ _ hg, ← Array.getElem?_toList]
          exact hu
        · cases hu
      · cases hu
end
/-- A block made between two worlds. -/
abbrev Nw (w w' : World) (g : Nat) : Prop := w.heap.size ≤ g ∧ g < w'.heap.size
/-- A row of things that grows where nothing stood before; its things' own lists lie beside it. -/
structure Gz {α : Type} (T k : Nat) (c : (Nat → Prop) → World → α → List Value → Prop) (w : World) (l : List α) (n : Nat) (mv : Value) (wr : World) : Prop where
  low : Below w.heap.size w wr
  len : l.length = n
  body : ∃ (Z : Nat → Prop) (xs : List Value), wr.ownsRow w.heap.size T k mv n xs ∧ (∀ g, Z g → w.heap.size ≤ g ∧ g < wr.heap.size ∧ mv.ownBlock ≠ some g) ∧ ∀ i x, l[i]? = some x → c Z wr x ((xs.drop (i * k)).take k)
theorem Gz.nil {α : Type} {T k : Nat} {c : (Nat → Prop) → World → α → List Value → Prop} {w : World} : Gz T k c w [] 0 (.slice none 0 0) w :=
  ⟨Below.refl _ _, rfl, fun _ => False, [], ⟨by simp, .inl ⟨rfl, rfl⟩⟩, fun _ h => h.elim, fun i x hi => by simp at hi⟩
theorem Gz.grow {α : Type} {T k : Nat} {c : (Nat → Prop) → World → α → List Value → Prop} {w : World} {l : List α} {n : Nat} {mv : Value} {wr wd w4 : World} {Z : Nat → Prop} {xs ys : List Value} {x : α} {ob : Obj} {g4 cap4 : Nat}
    (hc : ∀ Z Z' w w' x xs, Ag Z Z' w w' → c Z w x xs → c Z' w' x xs) (hlow : Below w.heap.size w wr) (hlen : l.length = n) (hrow : wr.ownsRow w.heap.size T k mv n xs) (hz : ∀ g, Z g → w.heap.size ≤ g ∧ g < wr.heap.size ∧ mv.ownBlock ≠ some g) (hold : ∀ i x, l[i]? = some x → c Z wr x ((xs.drop (i * k)).take k))
    (hb : Below wr.heap.size wr wd) (hnew : c (Nw wr wd) wd x ys) (hk : ys.length = k) (hown : w4.ownsRow w.heap.size T k (.slice (some ⟨g4, 0, none⟩) (n + 1) cap4) (n + 1) (xs ++ ys))
    (hg : (mv.ownBlock = some g4 ∧ (wd.alloc ob).grownBy w4 (some g4)) ∨ (g4 = wd.heap.size + 1 ∧ (wd.alloc ob).grownBy w4 none)) : Gz T k c w (l ++ [x]) (n + 1) (.slice (some ⟨g4, 0, none⟩) (n + 1) cap4) w4 := by
  have hs := hb.size
  have hls := hlow.size
  have hmv : ∀ g, mv.ownBlock = some g → w.heap.size ≤ g ∧ g < wr.heap.size := fun g e => hrow.lt g e
  have hf : Fr (fun k => w.heap.size ≤ k) wd w4 := grown_fr rfl hg fun g e => (hmv g e).1
  have hs4 := hf.size
  have hx : xs.length = n * k := hrow.1
  have ag1 : Ag Z (fun g => Z g ∨ Nw wr wd g) wr w4 := fun g hZ => ⟨.inl hZ, by
    obtain ⟨h1, h2, h3⟩ := hz g hZ
    rw [grown_old rfl hg (by omega) h3, hb.block g h2]⟩
  have ag2 : Ag (Nw wr wd) (fun g => Z g ∨ Nw wr wd g) wd w4 := fun g hZ => ⟨.inr hZ, grown_old rfl hg hZ.2 fun e => by have := (hmv g e).2; have := hZ.1; omega⟩
  refine ⟨hlow.trans ((hb.mono hls).trans (hf.below fun k hk => ⟨by omega, by omega⟩)), by simp [hlen], fun g => Z g ∨ Nw wr wd g, xs ++ ys, hown, ?_, ?_⟩
  · intro g hZ
    simp only [Value.ownBlock, ne_eq, Option.some.injEq]
    rcases hZ with hZ | hZ
    · obtain ⟨h1, h2, h3⟩ := hz g hZ
      refine ⟨h1, by omega, fun e => ?_⟩
      rcases hg with ⟨h4, _⟩ | ⟨h4, _⟩
      · exact h3 (by rw [h4, e])
      · omega
    · obtain ⟨h1, h2⟩ := hZ
      refine ⟨by omega, by omega, fun e => ?_⟩
      rcases hg with ⟨h4, _⟩ | ⟨h4, _⟩
      · have := (hmv _ h4).2; omega
      · omega
  · intro i y hi
    by_cases hin : i < n
    · rw [List.getElem?_append_left (by omega)] at hi
      have h1 : (i + 1) * k ≤ n * k := Nat.mul_le_mul_right k hin
      rw [Nat.add_mul] at h1
      rw [List.drop_append_of_le_length (by omega), List.take_append_of_le_length (by simp; omega)]
      exact hc _ _ _ _ _ _ ag1 (hold i y hi)
    · have hil : i = n := by
        have : i < (l ++ [x]).length := by
          apply Classical.byContradiction
          intro hn
          rw [List.getElem?_eq_none (by omega)] at hi
          cases hi
        simp at this
        omega
      subst hil
      rw [List.getElem?_append_right (by omega)] at hi
      simp [hlen] at hi
      subst hi
      rw [← hx, List.drop_left, ← hk, List.take_length]
      exact hc _ _ _ _ _ _ ag2 hnew
theorem Gz.done {α : Type} {T k : Nat} {c : (Nat → Prop) → World → α → List Value → Prop} {w : World} {l : List α} {n : Nat} {mv : Value} {wr : World} (hc : ∀ Z Z' w w' x xs, Ag Z Z' w w' → c Z w x xs → c Z' w' x xs) (h : Gz T k c w l n mv wr) (hl : l.length ≤ 140737488351232) : RZ (Nw w wr) k (c (Nw w wr)) wr l mv := by
  obtain ⟨_, hlen, Z, xs, hrow, hz, hold⟩ := h
  subst hlen
  exact RZ.of_owns hrow (fun g e => hrow.lt g e) hl fun i x hi => hc _ _ _ _ _ _ (fun g hZ => ⟨⟨(hz g hZ).1, (hz g hZ).2.1⟩, rfl⟩) (hold i x hi)
theorem RR.mem {α : Type} {N k : Nat} {c : World → α → List Value → Prop} {w : World} {l : List α} {v : Value} (h : RR N k c w l v) {i : Nat} {x : α} (hi : l[i]? = some x) : ∃ xs, c w x xs := by
  obtain ⟨_, _, _, _, _, h⟩ := h
  obtain ⟨_, _, xs, _, _, _, _, hx⟩ := h i x hi
  exact ⟨xs, hx⟩
theorem RR.lim {α : Type} {N k : Nat} {c : World → α → List Value → Prop} {w : World} {l : List α} {v : Value} (h : RR N k c w l v) : l.length ≤ 140737488351232 := by
  obtain ⟨_, _, _, _, h, _⟩ := h
  exact h

/-- One cell a thing. -/
def At1 (w : World) (a : Option Addr) (vs : List Value) : Prop := ∀ i v, vs[i]? = some v → ∃ g o, a = some ⟨g, o, none⟩ ∧ w.cell? ⟨g, o + i, none⟩ = some v
def ints (l : List Int) : List Value := l.map (Value.int .i64)
def bools (l : List Bool) : List Value := l.map Value.bool
theorem ints_at {l : List Int} {i : Nat} (hi : i < l.length) : (ints l)[i]? = some (.int .i64 (l.getD i 0)) := by
  unfold ints
  rw [List.getElem?_map, List.getElem?_eq_getElem hi]
  simp [List.getD, hi]
theorem bools_at {l : List Bool} {i : Nat} (hi : i < l.length) : (bools l)[i]? = some (.bool (l.getD i false)) := by
  unfold bools
  rw [List.getElem?_map, List.getElem?_eq_getElem hi]
  simp [List.getD, hi]
theorem At1.int {w : World} {a : Option Addr} {l : List Int} (h : At1 w a (ints l)) {i : Nat} (hi : i < l.length) : ∃ g o, a = some ⟨g, o, none⟩ ∧ w.cell? ⟨g, o + i, none⟩ = some (.int .i64 (l.getD i 0)) := h i _ (ints_at hi)
theorem At1.below {w w' : World} {a : Option Addr} {vs : List Value} (h : At1 w a vs) (hb : Below w.heap.size w w') : At1 w' a vs := by
  intro i v hi
  obtain ⟨g, o, e, hc⟩ := h i v hi
  exact ⟨g, o, e, (World.cell?_of_block (hb.block g (World.block_lt_of_cell? w _ hc))).trans hc⟩
theorem owns_at1 {w : World} {b e : Nat} {a : Option Addr} {n c : Nat} {xs : List Value} (h : w.ownsRow b e 1 (.slice a n c) n xs) : At1 w a xs := by
  intro i v hi
  obtain ⟨g, c', e, hc, _⟩ := owns_at (owns_down h (Nat.zero_le _)) hi
  cases e
  exact ⟨g, 0, rfl, by rw [Nat.zero_add]; exact hc⟩
theorem take_hit {α : Type} {l : List α} {d s : α} {k : Nat} (hk : k < l.length) (he : l.getD k d = s) : s ∈ l := by
  rw [List.getD_eq_getElem?_getD, List.getElem?_eq_getElem hk] at he
  exact he ▸ List.getElem_mem hk
theorem take_step {α : Type} {l : List α} {d s : α} {k : Nat} (hk : k < l.length) (hn : s ∉ l.take k) (he : ¬ l.getD k d = s) : s ∉ l.take (k + 1) := by
  rw [List.take_add_one, List.mem_append]
  rintro (h | h)
  · exact hn h
  · rw [List.getElem?_eq_getElem hk] at h
    rw [List.getD_eq_getElem?_getD, List.getElem?_eq_getElem hk] at he
    simp at h he
    exact he h.symm
theorem take_snoc {α : Type} {l : List α} {i : Nat} {x : α} (hx : l[i]? = some x) : l.take (i + 1) = l.take i ++ [x] := by rw [List.take_add_one, hx]; rfl
theorem ret_bool {a b : Bool} (h : a = b) : Ending.returned (.bool a) = .returned (.bool b) := by rw [h]
theorem ints_snoc {l : List Int} {x : Int} : ints (l ++ [x]) = ints l ++ [.int .i64 x] := by unfold ints; simp
theorem ints_len {l : List Int} : (ints l).length = l.length := by unfold ints; simp
theorem bools_len {l : List Bool} : (bools l).length = l.length := by unfold bools; simp
theorem get_at {α : Type} {l : List α} {i : Nat} (h : i < l.length) : ∃ x, l[i]? = some x := ⟨l[i], List.getElem?_eq_getElem h⟩
/-- A panic of a callee goes on. -/
theorem on_panic {P : Program} {fn : Func} {R : Ending → World → Prop} {chain : List PanicEntry} {a : Act} {w : World} (hd : a.defers = []) (h : R (.panicked chain) w) : bodyPost P fn R (.panic chain) a w := ⟨hd, h⟩
theorem drop_at {α : Type} {l : List α} {k : Nat} {x : α} (h : l[k]? = some x) : l.drop k = x :: l.drop (k + 1) := by
  obtain ⟨hk, e⟩ := List.getElem?_eq_some_iff.1 h
  rw [List.drop_eq_getElem_cons hk, e]
theorem drop_end {α : Type} {l : List α} {k : Nat} (h : l.length ≤ k) : l.drop k = [] := List.drop_eq_nil_of_le h
theorem below_new (w : World) (o : Obj) : Below w.heap.size w (w.alloc o) := (Below.refl _ w).alloc (Nat.le_refl _) _
def Fx (g T : Nat) (vs : List Value) (w : World) : Prop := w.heap[g]? = some (.cells vs.toArray T (0, 0))
section
variable {g T i : Nat} {vs : List Value} {w w' : World} {v : Value}
theorem Fx.get (h : Fx g T vs w) (hi : vs[i]? = some v) : w.cell? ⟨g, i, none⟩ = some v := by
  rw [cell_of_row w g i _ _ _ h]
  simpa using hi
theorem Fx.frz (h : Fx g T vs w) (i : Nat) : w.frozen? ⟨g, i, none⟩ = false := frozen_of_row w g i _ _ h
theorem Fx.set (h : Fx g T vs w) (i : Nat) (v : Value) : Fx g T (vs.set i v) (w.setCell ⟨g, i, none⟩ v) := by
  unfold Fx
  rw [loc_set h, List.setIfInBounds_toArray]
theorem Fx.keep (h : Fx g T vs w) (hb : w'.heap[g]? = w.heap[g]?) : Fx g T vs w' := hb.trans h
theorem Fx.lt (h : Fx g T vs w) : g < w.heap.size := loc_lt h
end
theorem other_set {w : World} {g i k : Nat} {v : Value} (h : k ≠ g) : (w.setCell ⟨g, i, none⟩ v).heap[k]? = w.heap[k]? := heap_setCell_other w ⟨g, i, none⟩ k v h
theorem fx_ne {g g' T T' : Nat} {vs vs' : List Value} {w : World} (h : Fx g T vs w) (h' : Fx g' T' vs' w) (hT : T ≠ T') : g ≠ g' := by
  intro e
  subst e
  rw [Fx] at h h'
  rw [h] at h'
  cases h'
  exact hT rfl
theorem fx_new (w : World) (vs : List Value) (T : Nat) : Fx w.heap.size T vs (w.alloc (.cells vs.toArray T)) := heap_alloc_new w _
theorem Fx.drew {g T : Nat} {vs : List Value} {w : World} (h : Fx g T vs w) : Fx g T vs w.drew := h
theorem Fr.drew {Z : Nat → Prop} {w w' : World} (h : Fr Z w w') : Fr Z w w'.drew := h.trans (.of_below (Below.refl _ _).drew)
theorem undrew {w : World} {k : Nat} {o : Obj} (h : w.drew.heap[k]? = some o) : w.heap[k]? = some o := h
theorem undrewB {B : Nat} {w w' : World} (h : Below B w w'.drew) : Below B w w' := ⟨h.os, h.tape, h.output, h.size, h.block⟩
theorem alloc4 (w : World) (o0 o1 o2 o3 : Obj) : Below w.heap.size w ((((w.alloc o0).alloc o1).alloc o2).alloc o3).drew ∧ ((((w.alloc o0).alloc o1).alloc o2).alloc o3).drew.heap[w.heap.size]? = some o0 ∧ ((((w.alloc o0).alloc o1).alloc o2).alloc o3).drew.heap[w.heap.size + 1]? = some o1 ∧ ((((w.alloc o0).alloc o1).alloc o2).alloc o3).drew.heap[w.heap.size + 1 + 1]? = some o2 ∧ ((((w.alloc o0).alloc o1).alloc o2).alloc o3).drew.heap[w.heap.size + 1 + 1 + 1]? = some o3 := by
  have b1 := below_new w o0
  have s1 : (w.alloc o0).heap.size = w.heap.size + 1 := by simp
  have s2 : ((w.alloc o0).alloc o1).heap.size = w.heap.size + 1 + 1 := by simp
  have s3 : (((w.alloc o0).alloc o1).alloc o2).heap.size = w.heap.size + 1 + 1 + 1 := by simp
  have e0 := heap_alloc_new w o0
  have e1 := heap_alloc_new (w.alloc o0) o1
  have e2 := heap_alloc_new ((w.alloc o0).alloc o1) o2
  have e3 := heap_alloc_new (((w.alloc o0).alloc o1).alloc o2) o3
  rw [s1] at e1
  rw [s2] at e2
  rw [s3] at e3
  have k1 : ∀ g, g < (w.alloc o0).heap.size → ((w.alloc o0).alloc o1).heap[g]? = (w.alloc o0).heap[g]? := fun g hg => Below.heap_alloc _ _ _ hg
  have k2 : ∀ g, g < ((w.alloc o0).alloc o1).heap.size → (((w.alloc o0).alloc o1).alloc o2).heap[g]? = ((w.alloc o0).alloc o1).heap[g]? := fun g hg => Below.heap_alloc _ _ _ hg
  have k3 : ∀ g, g < (((w.alloc o0).alloc o1).alloc o2).heap.size → ((((w.alloc o0).alloc o1).alloc o2).alloc o3).heap[g]? = (((w.alloc o0).alloc o1).alloc o2).heap[g]? := fun g hg => Below.heap_alloc _ _ _ hg
  refine ⟨(((b1.alloc (by omega) _).alloc (by omega) _).alloc (by omega) _).drew, ?_, ?_, ?_, e3⟩
  · exact (k3 _ (by omega)).trans ((k2 _ (by omega)).trans ((k1 _ (by omega)).trans e0))
  · exact (k3 _ (by omega)).trans ((k2 _ (by omega)).trans e1)
  · exact (k3 _ (by omega)).trans e2
theorem four (w : World) (o0 o1 o2 o3 : Obj) : Below w.heap.size w ((((w.alloc o0).alloc o1).alloc o2).alloc o3) ∧ ((((w.alloc o0).alloc o1).alloc o2).alloc o3).heap[w.heap.size]? = some o0 ∧ ((((w.alloc o0).alloc o1).alloc o2).alloc o3).heap[w.heap.size + 1]? = some o1 ∧ ((((w.alloc o0).alloc o1).alloc o2).alloc o3).heap[w.heap.size + 1 + 1]? = some o2 ∧ ((((w.alloc o0).alloc o1).alloc o2).alloc o3).heap[w.heap.size + 1 + 1 + 1]? = some o3 := by
  obtain ⟨h1, h2, h3, h4, h5⟩ := alloc4 w o0 o1 o2 o3
  exact ⟨undrewB h1, undrew h2, undrew h3, undrew h4, undrew h5⟩
end Go.Proofs.Ytagpdceaononkaa
