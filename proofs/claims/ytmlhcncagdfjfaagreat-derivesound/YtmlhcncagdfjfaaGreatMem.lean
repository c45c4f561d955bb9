import Derived.Test.YtmlhcncagdfjfaaGreatOBase
import Derived.Deep.AppendLies
import Derived.Deep.AppendSrc
import Derived.BigFrame
import Derived.BigQuiet
import Derived.Deep.QuietTactic
import Derived.Deep.RegionWith
import Derived.Laws.MakeOwn
import Derived.Laws.Rows
import Derived.Carry
import Derived.Deep.Cut
import Derived.Deep.RegionHeld3
import Derived.KernelRfl
namespace Go.Proofs.YtmlhcncagdfjfaaGreat
open Go.RowKit
theorem aD {w : World} {q : Nat} {o : Obj} (h : w.heap[q]? = some o) : q < w.heap.size := by
 apply Classical.byContradiction
 intro hn
 rw [Array.getElem?_eq_none (by omega)] at h
 cases h
theorem ah (w : World) (q : Nat) : Below w.heap.size w (w.drewN q) := ⟨rfl, rfl, rfl, Nat.le_refl _, fun _ _ => rfl⟩
theorem xB {w : World} {q T i : Nat} {cs : Array Value} {v : Value} (h : w.heap[q]? = some (.cells cs T (0, 0))) : (w.setCell ⟨q, i, none⟩ v).heap[q]? = some (.cells (cs.setIfInBounds i v) T (0, 0)) := heap_setCell_same w q i cs T v h
abbrev aa (B : Nat) : Value := .pointer (some ⟨B, 0, none⟩)
structure Fr (Z : Nat → Prop) (w w' : World) : Prop where
 os : w'.os = w.os
 tape : w'.tape = w.tape
 output : w'.output = w.output
 size : w.heap.size ≤ w'.heap.size
 block : ∀ k, k < w.heap.size → ¬ Z k → w'.heap[k]? = w.heap[k]?
theorem Fr.refl (Z : Nat → Prop) (w : World) : Fr Z w w := ⟨rfl, rfl, rfl, Nat.le_refl _, fun _ _ _ => rfl⟩
theorem Fr.trans {Z : Nat → Prop} {a b c : World} (h : Fr Z a b) (k : Fr Z b c) : Fr Z a c :=
 ⟨k.os.trans h.os, k.tape.trans h.tape, k.output.trans h.output, Nat.le_trans h.size k.size, fun i hi hz => (k.block i (Nat.lt_of_lt_of_le hi h.size) hz).trans (h.block i hi hz)⟩
theorem Fr.of_below {Z : Nat → Prop} {w w' : World} (h : Below w.heap.size w w') : Fr Z w w' := ⟨h.os, h.tape, h.output, h.size, fun k hk _ => h.block k hk⟩
theorem Fr.of_grown {Z : Nat → Prop} {w w' : World} {row : Option Nat} (h : w.grownBy w' row) (hz : ∀ k, row = some k → Z k) : Fr Z w w' :=
 ⟨h.os, h.tape, h.output, h.size, fun k hk hn => h.block k hk fun e => hn (hz k e.symm)⟩
theorem Fr.setCell {Z : Nat → Prop} {w : World} (p : Addr) (v : Value) (hz : Z p.block) : Fr Z w (w.setCell p v) :=
 ⟨rfl, rfl, rfl, by simp, fun k _ hn => heap_setCell_other w p k v fun e => hn (e ▸ hz)⟩
theorem Fr.below {Z : Nat → Prop} {w w' : World} (h : Fr Z w w') {n : Nat} (hn : ∀ k, k < n → k < w.heap.size ∧ ¬ Z k) : Below n w w' := ⟨h.os, h.tape, h.output, h.size, fun k hk => h.block k (hn k hk).1 (hn k hk).2⟩
theorem Fr.mono {Z Z' : Nat → Prop} {w w' : World} (h : Fr Z w w') (hz : ∀ k, k < w.heap.size → Z k → Z' k) : Fr Z' w w' := ⟨h.os, h.tape, h.output, h.size, fun k hk hn => h.block k hk fun e => hn (hz k hk e)⟩
def RR {α : Type} (N k : Nat) (c : World → α → List Value → Prop) (w : World) (l : List α) (v : Value) : Prop :=
 ∃ a cap, v = .slice a l.length cap ∧ l.length ≤ cap ∧ l.length ≤ 140737488351232 ∧ ∀ i x, l[i]? = some x → ∃ g o xs, a = some ⟨g, o, none⟩ ∧ g < N ∧ xs.length = k ∧ (∀ j u, xs[j]? = some u → w.cell? ⟨g, o + i * k + j, none⟩ = some u) ∧ c w x xs
section
variable {α : Type} {N N' k : Nat} {c c' : World → α → List Value → Prop} {w w' : World} {l : List α} {v : Value}
theorem RR.keep (h : RR N k c w l v) (hb : ∀ g, g < N → w'.heap[g]? = w.heap[g]?) (hc : ∀ a xs, c w a xs → c w' a xs) : RR N k c w' l v := by
 obtain ⟨a, cap, e, Ab, hl, h⟩ := h
 refine ⟨a, cap, e, Ab, hl, fun i x hi => ?_⟩
 obtain ⟨g, o, xs, ea, hg, Ac, Aa, hx⟩ := h i x hi
 exact ⟨g, o, xs, ea, hg, Ac, fun j u hu => (World.cell?_of_block (hb g hg)).trans (Aa j u hu), hc _ _ hx⟩
theorem RR.form (h : RR N k c w l v) : ∃ a cap, v = .slice a l.length cap ∧ l.length ≤ cap ∧ l.length ≤ 140737488351232 := by
 obtain ⟨a, cap, e, Aa, hl, _⟩ := h
 exact ⟨a, cap, e, Aa, hl⟩
end
section
variable {N N' : Nat} (hN : N ≤ N') {w : World}
include hN
theorem RR.mono {α : Type} {k : Nat} {c : World → α → List Value → Prop} {c' : World → α → List Value → Prop} {l : List α} {v : Value} (h : RR N k c w l v) (hc : ∀ x xs, c w x xs → c' w x xs) : RR N' k c' w l v := by
 obtain ⟨a, cap, e, Aa, hl, h⟩ := h
 refine ⟨a, cap, e, Aa, hl, fun i x hi => ?_⟩
 obtain ⟨g, o, xs, h1, h2, h3, h4, h5⟩ := h i x hi
 exact ⟨g, o, xs, h1, Nat.lt_of_lt_of_le h2 hN, h3, h4, hc _ _ h5⟩
end
section
variable {w W : World} (hb : Below w.heap.size w W)
include hb
end
theorem lF {w : World} {cs : List Value} {t : Nat} {g : Nat} (hg : g = w.heap.size) : ∀ j u, cs[j]? = some u → (w.alloc (.cells cs.toArray t)).cell? ((⟨g, 0, none⟩ : Addr).add j) = some u := by
 subst hg
 intro j u hu
 rw [show ((⟨w.heap.size, 0, none⟩ : Addr).add j) = ⟨w.heap.size, j, none⟩ from by unfold Addr.add; split <;> simp_all, cell_of_row _ _ _ _ t _ (heap_alloc_new w _)]
 simpa using hu
theorem owns_keep {w w' : World} {base e k : Nat} {v : Value} {n : Nat} {xs : List Value} (h : w.ownsRow base e k v n xs) (hb : ∀ g, v.ownBlock = some g → w'.heap[g]? = w.heap[g]?) : w'.ownsRow base e k v n xs := by
 obtain ⟨h1, h2⟩ := h
 refine ⟨h1, ?_⟩
 rcases h2 with h2 | ⟨g, cap, Aa, rfl, h3, h4, h5⟩
 ·exact .inl h2
 exact .inr ⟨g, cap, Aa, rfl, h3, (hb g rfl).trans h4, h5⟩
theorem bf {w : World} {base e k : Nat} {v : Value} {n : Nat} {xs : List Value} (h : w.ownsRow base e k v n xs) : ∃ a c, v = .slice a n c := by
 rcases h.2 with ⟨h1, h2⟩ | ⟨g, cap, Aa, h1, _⟩
 ·exact ⟨none, 0, by rw [h1, h2]⟩
 exact ⟨_, _, h1⟩
theorem ax {w : World} {base e k : Nat} {v : Value} {n : Nat} {xs : List Value} (h : w.ownsRow base e k v n xs) {g : Nat} (hg : v.ownBlock = some g) : g < w.heap.size := (h.lt g hg).2
theorem ie {w : World} {e : Nat} {v : Value} {n : Nat} {xs : List Value} (h : w.ownsRow 0 e 1 v n xs) {i : Nat} {x : Value} (hx : xs[i]? = some x) : ∃ g c, v = .slice (some ⟨g, 0, none⟩) n c ∧ w.cell? ⟨g, i, none⟩ = some x ∧ (∀ j, w.frozen? ⟨g, j, none⟩ = false) ∧ i < n := by
 obtain ⟨h1, h2⟩ := h
 have hi : i < xs.length := by
  apply Classical.byContradiction
  intro hn
  rw [List.getElem?_eq_none (by omega)] at hx
  cases hx
 rcases h2 with ⟨rfl, rfl⟩ | ⟨g, cap, Aa, rfl, h3, h4, h5, h6, h7, h8⟩
 ·omega
 refine ⟨g, cap, rfl, ?_, fun j => frozen_of_row w g j Aa e h4, by omega⟩
 rw [cell_of_row w g i Aa e _ h4, ← Array.getElem?_toList]
 rw [← h8, List.getElem?_take] at hx
 split at hx
 ·exact hx
 cases hx
theorem eO {w w1 w2 : World} {o : Obj} {tv : Value} {g k : Nat} (hw : w1 = w.alloc o) (hg : (tv.ownBlock = some g ∧ w1.grownBy w2 (some g)) ∨ (g = w.heap.size + 1 ∧ w1.grownBy w2 none)) (hk : k < w.heap.size) (hn : tv.ownBlock ≠ some k) : w2.heap[k]? = w.heap[k]? := by
 have Aa : k < w1.heap.size := by rw [hw]; simp; omega
 have e1 : w1.heap[k]? = w.heap[k]? := by rw [hw]; exact Below.heap_alloc w o k hk
 rcases hg with ⟨h1, h2⟩ | ⟨_, h2⟩
 ·rw [h2.block k Aa (fun e => hn (by rw [h1, e])), e1]
 rw [h2.block k Aa (by simp), e1]
theorem dj {Z : Nat → Prop} {w w1 w2 : World} {o : Obj} {tv : Value} {g : Nat} (hw : w1 = w.alloc o) (hg : (tv.ownBlock = some g ∧ w1.grownBy w2 (some g)) ∨ (g = w.heap.size + 1 ∧ w1.grownBy w2 none)) (hz : ∀ g, tv.ownBlock = some g → Z g) : Fr Z w w2 := by
 have h1 : Fr Z w w1 := by rw [hw]; exact .of_below ((Below.refl _ _).alloc (Nat.le_refl _) _)
 rcases hg with ⟨h1', h2⟩ | ⟨_, h2⟩
 ·exact h1.trans (.of_grown h2 fun k e => by cases e; exact hz _ h1')
 exact h1.trans (.of_grown h2 fun k e => by cases e)
theorem uL {w : World} {q e e2 : Nat} {v : Value} {n : Nat} {xs : List Value} {cs : Array Value} (h : w.ownsRow 0 e 1 v n xs) (hq : w.heap[q]? = some (.cells cs e2 (0, 0))) (hne : e ≠ e2) : v.ownBlock ≠ some q := by
 intro hg
 rcases h.2 with ⟨h1, _⟩ | ⟨g', _, Aa, h1, _, h3, _⟩
 ·rw [h1] at hg; cases hg
 rw [h1] at hg; cases hg; rw [hq] at h3; cases h3; exact hne rfl
theorem lK {w : World} {e e2 : Nat} {v u : Value} {n m : Nat} {xs ys : List Value} (h : w.ownsRow 0 e 1 v n xs) (hq : w.ownsRow 0 e2 1 u m ys) (hne : e ≠ e2) {g : Nat} (hg : u.ownBlock = some g) : v.ownBlock ≠ some g := by
 rcases hq.2 with ⟨h1, _⟩ | ⟨g', _, Aa, h1, _, h3, _⟩
 ·rw [h1] at hg; cases hg
 rw [h1] at hg; cases hg
 exact uL h h3 hne
theorem aI {w : World} {b b' e k n : Nat} {u : Value} {xs : List Value} (h : w.ownsRow b e k u n xs) (hb : b' ≤ b) : w.ownsRow b' e k u n xs := by
 obtain ⟨h1, h2⟩ := h
 refine ⟨h1, ?_⟩
 rcases h2 with h2 | ⟨g, cap, Aa, e, hg, h4⟩
 ·exact .inl h2
 exact .inr ⟨g, cap, Aa, e, Nat.le_trans hb hg, h4⟩
section
variable {N : Nat} {w : World} {a : Option Addr} {n c i : Nat}
theorem RR.open {α : Type} {k : Nat} {cc : World → α → List Value → Prop} {l : List α} (h : RR N k cc w l (.slice a n c)) {x : α} (hx : l[i]? = some x) :
    ∃ g o xs, a = some ⟨g, o, none⟩ ∧ g < N ∧ xs.length = k ∧ (∀ j u, xs[j]? = some u → w.cell? ⟨g, o + i * k + j, none⟩ = some u) ∧ cc w x xs := by
 obtain ⟨a', c', e, _, _, h⟩ := h
 cases e
 exact h i x hx
end
theorem nX {P : Program} (w : World) (base : Nat) (t ty e : TypeId) (i : TypeInfo) (z : Value) (size bytes : Nat) (ht : P.underlying t = some (.slice e)) (hi : P.info? e = some i) (hz : i.zero = some z)
    (hsize : i.size = size) (hby : i.bytes = bytes) (hzs : z.cells.size = size) (hsz : 0 < size)
    (v : Value) (n : Nat) (xs : List Value) (hown : w.ownsRow base e size v n xs)
    (ad : Addr) (c : Nat) (news : List Value) (hl : news.length = size) (hnews : ∀ j u, news[j]? = some u → w.cell? (ad.add j) = some u) (h1 : ∀ u ∈ news, u.oneCell' = true)
    (h63 : n + 1 ≤ maxLen) (hbytes : (n + 1) * bytes ≤ 140737488355328) (hbase : base ≤ w.heap.size) :
    ∃ g cap w', (Builtin.append_ #[t, t] ty #[v, .slice (some ad) 1 c]).run P w = .ok (.slice (some ⟨g, 0, none⟩) (n + 1) cap) w' ∧
     w'.ownsRow base e size (.slice (some ⟨g, 0, none⟩) (n + 1) cap) (n + 1) (xs ++ news) ∧ ((v.ownBlock = some g ∧ w.grownBy w' (some g)) ∨ (g = w.heap.size ∧ w.grownBy w' none)) := by
 subst hsize
 subst hby
 have Ah : n + 1 ≤ 9223372036854775807 := by simp only [maxLen] at h63; omega
 have hl' : news.length = 1 * i.size := by omega
 have Ab : (xs ++ news).length = (n + 1) * i.size := by rw [List.length_append, hown.1, hl, Nat.add_mul]; omega
 have Ac : ∀ (old : Nat), old < n + 1 →
     (w.drew.alloc (.cells (xs.toArray ++ news.toArray ++ Builtin.zeroCells z.cells (grownCap w (n + 1) old e - (n + 1))) e)).ownsRow base e i.size (.slice (some ⟨w.heap.size, 0, none⟩) (n + 1) (grownCap w (n + 1) old e)) (n + 1) (xs ++ news) ∧
     w.grownBy (w.drew.alloc (.cells (xs.toArray ++ news.toArray ++ Builtin.zeroCells z.cells (grownCap w (n + 1) old e - (n + 1))) e)) none := by
  intro old ho
  have Ai := grownCap_ge w (n + 1) old e
  refine ⟨⟨Ab, .inr ⟨w.heap.size, _, _, rfl, hbase, heap_alloc_new w.drew _, Ai, grownCap_le_maxLen w (n + 1) old e h63, ?_, ?_⟩⟩, ⟨rfl, rfl, rfl, by simp, fun k hk _ => Go.heap_alloc_old w.drew _ hk⟩⟩
  ·simp only [Array.size_append, List.size_toArray, size_zeroCells, hzs, hown.1, hl]
   have : grownCap w (n + 1) old e = (n + 1) + (grownCap w (n + 1) old e - (n + 1)) := by omega
   generalize grownCap w (n + 1) old e - (n + 1) = r at *
   rw [this, Nat.add_mul, Nat.add_mul]
   omega
  simp only [Array.toList_append, List.append_assoc]
  rw [← List.append_assoc, ← Ab]
  exact List.take_left
 rcases hown.2 with ⟨rfl, rfl⟩ | ⟨g, cap, Ad, rfl, Al, hg, Am, Aj, Ak, Af⟩
 ·have hx : xs = [] := List.eq_nil_of_length_eq_zero (by simpa using hown.1)
  subst hx
  have hr := run_append_nil (P := P) w t ty e i z ht hi hz ad 1 c news hl' hnews (by omega) (by omega) (by have hb := hbytes; simp only [Nat.zero_add] at hb; omega)
  have Aa := Ac 0 (by omega)
  simp only [Nat.zero_add, List.nil_append, Array.empty_append] at Aa ⊢
  exact ⟨_, _, _, hr, Aa.1, .inr ⟨rfl, Aa.2⟩⟩
 by_cases hroom : n + 1 ≤ cap
 ·have Ag : n * i.size + news.length ≤ Ad.size := by
   rw [hl, Ak]
   have := Nat.mul_le_mul_right i.size hroom
   rw [Nat.add_mul] at this; omega
  have hr := run_append_room (P := P) w t ty e i ht hi g n cap Ad hg ad 1 c news hl' hnews h1 hroom Ag
  refine ⟨_, _, _, hr, ⟨Ab, .inr ⟨g, cap, _, rfl, Al, setRow_heap w g Ad _ e _ hg, hroom, Aj, ?_, ?_⟩⟩, .inl ⟨rfl, ⟨rfl, rfl, rfl, by simp, fun k _ hk => setRow_other w g k _ (fun e => hk (by simp [e]))⟩⟩⟩
  ·simp only [List.size_toArray, List.length_append, List.length_take, List.length_drop, Array.length_toList]
   omega
  rw [Af, ← Ab]
  exact List.take_left
 have Ae : ∀ j u, xs[j]? = some u → w.cell? ((⟨g, 0, none⟩ : Addr).add j) = some u := hown.cells (g := g) rfl
 have hr := run_append_grow (P := P) w t ty e i z ht hi hz ⟨g, 0, none⟩ n cap xs hown.1 Ae ad 1 c news hl' hnews (by omega) (by omega) (growslice_fits (by omega) hbytes)
 have Aa := Ac cap (by omega)
 exact ⟨_, _, _, hr, Aa.1, .inr ⟨rfl, Aa.2⟩⟩
theorem bt {P : Program} (w : World) {ops : Array Oper} {rest : List Oper} {o : Oper} {a : Act} {Q : Exit → Act → World → Prop} (hgd : o.guard = none) (s x : Operand) (t : TypeId)
    (ho : o.op = .call { callee := .builtin .append, args := #[s, x], argTypes := #[t, t] }) (base : Nat) (e : TypeId) (i : TypeInfo) (z : Value) (size bytes : Nat) (ht : P.underlying t = some (.slice e)) (hi : P.info? e = some i) (hz : i.zero = some z)
    (hsize : i.size = size) (hby : i.bytes = bytes) (hzs : z.cells.size = size) (hsz : 0 < size)
    (v : Value) (n : Nat) (xs : List Value) (hs : a.eval s = v) (hown : w.ownsRow base e size v n xs)
    (ad : Addr) (c : Nat) (news : List Value) (hx : a.eval x = .slice (some ad) 1 c) (hl : news.length = size) (hnews : ∀ j u, news[j]? = some u → w.cell? (ad.add j) = some u) (h1 : ∀ u ∈ news, u.oneCell' = true)
    (h63 : n + 1 ≤ maxLen) (hbytes : (n + 1) * bytes ≤ 140737488355328) (hbase : base ≤ w.heap.size)
    (h : ∀ g cap w', w'.ownsRow base e size (.slice (some ⟨g, 0, none⟩) (n + 1) cap) (n + 1) (xs ++ news) → ((v.ownBlock = some g ∧ w.grownBy w' (some g)) ∨ (g = w.heap.size ∧ w.grownBy w' none)) → wpList P ops Q rest (a.put o.dst (.slice (some ⟨g, 0, none⟩) (n + 1) cap)) w') : wpList P ops Q (o :: rest) a w := by
 refine wpList_plain hgd fun K hK => ?_
 obtain ⟨g, cap, w', hr, h2, h3⟩ := nX (P := P) w base t o.type e i z size bytes ht hi hz hsize hby hzs hsz v n xs hown ad c news hl hnews h1 h63 hbytes hbase
 unfold Oper.wp execOp
 simp only [ho, resolve, invoke, builtin, Sem.run_bind, Sem.run_pure, Result.andThen_ok, List.map_toArray, List.map_cons, List.map_nil, hs, hx, hr]
 exact hK _ _ (h g cap w' h2 h3)
theorem pg {w : World} {base : Nat} (hbase : base ≤ w.heap.size) {e : TypeId} {z : Value} {k n m old : Nat} {xs news : List Value} (hz : z.cells.size = k) (hx : xs.length = n * k) (hn : news.length = m * k) (hlim : n + m ≤ maxLen) (row : Option Nat) :
    (w.drew.alloc (.cells ((xs ++ news).toArray ++ Builtin.zeroCells z.cells (grownCap w (n + m) old e - (n + m))) e)).ownsRow base e k (.slice (some ⟨w.heap.size, 0, none⟩) (n + m) (grownCap w (n + m) old e)) (n + m) (xs ++ news) ∧
     w.grownBy (w.drew.alloc (.cells ((xs ++ news).toArray ++ Builtin.zeroCells z.cells (grownCap w (n + m) old e - (n + m))) e)) row := by
 have Ac := grownCap_ge w (n + m) old e
 have Ab := grownCap_le_maxLen w (n + m) old e hlim
 have Aa : (xs ++ news).length = (n + m) * k := by rw [List.length_append, Nat.add_mul]; omega
 constructor
 ·refine ⟨Aa, .inr ⟨w.heap.size, _, _, rfl, hbase, heap_alloc_new w.drew _, Ac, Ab, ?_, ?_⟩⟩
  ·rw [Array.size_append, size_zeroCells, hz]
   simp only [List.size_toArray, Aa]
   generalize grownCap w (n + m) old e = c at *
   rw [← Nat.add_mul]
   congr 1
   omega
  rw [Array.toList_append, ← Aa]
  exact List.take_left
 exact ⟨rfl, rfl, rfl, by simp, fun k hk _ => Go.heap_alloc_old w.drew _ hk⟩
theorem oL {P : Program} (w : World) {base : Nat} (hbase : base ≤ w.heap.size) (t tx ty e : TypeId) (i : TypeInfo) (z : Value) (k b : Nat) (ht : P.underlying t = some (.slice e)) (hi : P.info? e = some i) (hz : i.zero = some z) (hs1 : i.size = k) (hb1 : i.bytes = b) (hzc : z.cells.size = k)
    (v : Value) (n : Nat) (xs : List Value) (hown : w.ownsRow base e k v n xs) (x : Value) (m : Nat) (news : List Value) (hsrc : Src P k tx x m news w) (h63 : n + m ≤ maxLen) (hby : (n + m) * b ≤ 140737488355328) :
    ∃ v' w', (Builtin.append_ #[t, tx] ty #[v, x]).run P w = .ok v' w' ∧ w'.ownsRow base e k v' (n + m) (xs ++ news) ∧ w.grownBy w' v.ownBlock ∧ (∀ g, v'.ownBlock = some g → v.ownBlock = some g ∨ w.heap.size ≤ g) := by
 have Ap : n + m ≤ 9223372036854775807 := by simp only [maxLen] at h63; omega
 have Ah : xs.length = n * k := hown.1
 have Ad : news.length = m * k := hsrc.newsLen
 have hsrc' : Src P i.size tx x m news w := by rw [hs1]; exact hsrc
 have Al : (n + m) * i.bytes ≤ 140737488355328 := by
  rw [hb1]
  exact hby
 have Ac : ∀ old, old < n + m → Builtin.nextslicecap (n + m) old * i.bytes ≤ 281474976710656 := fun old ho => growslice_fits ho Al
 rcases hown.2 with ⟨rfl, rfl⟩ | ⟨g, cap, Ab, rfl, Ao, hg, Ar, Am, An, Af⟩
 ·have Ak : xs = [] := List.eq_nil_of_length_eq_zero (by omega)
  subst Ak
  by_cases hm : m = 0
  ·subst hm
   have Aj : news = [] := List.eq_nil_of_length_eq_zero (by omega)
   subst Aj
   refine ⟨.slice none 0 0, w, ?_, World.ownsRow_nil w base e k, ⟨rfl, rfl, rfl, Nat.le_refl _, fun _ _ _ => rfl⟩, fun g e => .inl e⟩
   rcases hsrc'.kind with ⟨e', hk⟩ | hk <;> simp [Builtin.append_, run_underlying ht, run_underlying hk, sizeOf, typeInfo, hi, hsrc'.len, hsrc'.cells]
  have hr := run_append_grow_src (P := P) w t tx ty e i z ht hi hz none 0 0 [] (run_firstCells_none w.drew i.size 0 0 0) x m news hsrc' (by omega) (by omega) (Ac 0 (by omega))
  have Aa := pg hbase (w := w) (e := e) (old := 0) hzc Ah Ad (by omega) (Value.ownBlock (.slice none 0 0))
  exact ⟨_, _, hr, Aa.1, Aa.2, fun g e => .inr (by simp [Value.ownBlock] at e; omega)⟩
 by_cases hroom : n + m ≤ cap
 ·have Aq : n * k + m * k ≤ cap * k := by rw [← Nat.add_mul]; exact Nat.mul_le_mul_right k hroom
  have Ag := run_storeCells_at P g (n * i.size) e news 0 Ab w hg (by rw [hs1]; omega) hsrc.one
  simp only [Nat.add_zero] at Ag
  refine ⟨.slice (some ⟨g, 0, none⟩) (n + m) cap, w.setRow g (Ab.toList.take (n * i.size) ++ news ++ Ab.toList.drop (n * i.size + news.length)).toArray, ?_, ?_, ?_, fun g e => .inl e⟩
  ·rcases hsrc'.kind with ⟨e', hk⟩ | hk <;> simp [Builtin.append_, run_underlying ht, run_underlying hk, sizeOf, typeInfo, hi, hsrc'.len, hroom, hsrc'.cells, Addr.add_lit, Ag]
  ·have Ae : (xs ++ news).length = (n + m) * k := by rw [List.length_append, Nat.add_mul]; omega
   refine ⟨Ae, .inr ⟨g, cap, _, rfl, Ao, setRow_heap w g Ab _ e _ hg, hroom, Am, ?_, ?_⟩⟩
   ·simp only [List.size_toArray, List.length_append, List.length_take, List.length_drop, Array.length_toList, hs1, Ad] at An ⊢
    omega
   rw [hs1, Af, ← Ae]
   exact List.take_left
  exact ⟨rfl, rfl, rfl, by simp [World.setRow], fun k _ hk => setRow_other w g k _ (fun e => hk (by simp [Value.ownBlock, e]))⟩
 have Ai := run_firstCells_some (P := P) w.drew i.size n ⟨g, 0, none⟩ n cap xs (by rw [hs1]; omega) (by simpa using hown.cells (g := g) rfl)
 have hr := run_append_grow_src (P := P) w t tx ty e i z ht hi hz (some ⟨g, 0, none⟩) n cap xs Ai x m news hsrc' (by omega) (by omega) (Ac cap (by omega))
 have Aa := pg hbase (w := w) (e := e) (old := cap) hzc Ah Ad (by omega) (Value.ownBlock (.slice (some ⟨g, 0, none⟩) n cap))
 exact ⟨_, _, hr, Aa.1, Aa.2, fun g e => .inr (by simp [Value.ownBlock] at e; omega)⟩
theorem gQ {P : Program} (w : World) {base : Nat} (hbase : base ≤ w.heap.size) {ops : Array Oper} {rest : List Oper} {o : Oper} {a : Act} {Q : Exit → Act → World → Prop} (hgd : Region.wanted o (yielded ops a.tmps) = true) (s x : Operand) (t tx : TypeId)
    (ho : o.op = .call { callee := .builtin .append, args := #[s, x], argTypes := #[t, tx] }) (e : TypeId) (i : TypeInfo) (z : Value) (k b : Nat) (ht : P.underlying t = some (.slice e)) (hi : P.info? e = some i) (hz : i.zero = some z) (hs1 : i.size = k) (hb1 : i.bytes = b) (hzc : z.cells.size = k)
    (v : Value) (n : Nat) (xs : List Value) (hs : a.eval s = v) (hown : w.ownsRow base e k v n xs) (y : Value) (m : Nat) (news : List Value) (hx : a.eval x = y) (hsrc : Src P k tx y m news w) (h63 : n + m ≤ maxLen) (hby : (n + m) * b ≤ 140737488355328)
    (h : ∀ v' w', w'.ownsRow base e k v' (n + m) (xs ++ news) → w.grownBy w' v.ownBlock → (∀ g, v'.ownBlock = some g → v.ownBlock = some g ∨ w.heap.size ≤ g) → wpList P ops Q rest (a.put o.dst v') w') : wpList P ops Q (o :: rest) a w := by
 refine BigFrame.wpList_want hgd fun K hK => ?_
 obtain ⟨v', w', hr, h2, h3, h4⟩ := oL (P := P) w hbase t tx o.type e i z k b ht hi hz hs1 hb1 hzc v n xs hown y m news hsrc h63 hby
 unfold Oper.wp execOp
 simp only [ho, resolve, invoke, builtin, Sem.run_bind, Sem.run_pure, Result.andThen_ok, List.map_toArray, List.map_cons, List.map_nil, hs, hx, hr]
 exact hK _ _ (h v' w' h2 h3 h4)
def RZ {α : Type} (Z : Nat → Prop) (k : Nat) (c : World → α → List Value → Prop) (w : World) (l : List α) (v : Value) : Prop :=
 ∃ a cap, v = .slice a l.length cap ∧ l.length ≤ cap ∧ l.length ≤ 140737488351232 ∧ ∀ i x, l[i]? = some x → ∃ g o xs, a = some ⟨g, o, none⟩ ∧ Z g ∧ xs.length = k ∧ (∀ j u, xs[j]? = some u → w.cell? ⟨g, o + i * k + j, none⟩ = some u) ∧ c w x xs
def Ag (Z Z' : Nat → Prop) (w w' : World) : Prop := ∀ g, Z g → Z' g ∧ w'.heap[g]? = w.heap[g]?
section
variable {α : Type} {Z Z' : Nat → Prop} {N k : Nat} {c c' : World → α → List Value → Prop} {w w' : World} {l : List α} {v : Value}
theorem RZ.keep (h : RZ Z k c w l v) (hb : Ag Z Z' w w') (hc : ∀ a xs, c w a xs → c' w' a xs) : RZ Z' k c' w' l v := by
 obtain ⟨a, cap, e, Ab, hl, h⟩ := h
 refine ⟨a, cap, e, Ab, hl, fun i x hi => ?_⟩
 obtain ⟨g, o, xs, ea, hg, Ac, Aa, hx⟩ := h i x hi
 exact ⟨g, o, xs, ea, (hb g hg).1, Ac, fun j u hu => (World.cell?_of_block (hb g hg).2).trans (Aa j u hu), hc _ _ hx⟩
theorem RZ.rr (h : RZ Z k c w l v) (hz : ∀ g, Z g → g < N) (hc : ∀ a xs, c w a xs → c' w a xs) : RR N k c' w l v := by
 obtain ⟨a, cap, e, Ab, hl, h⟩ := h
 refine ⟨a, cap, e, Ab, hl, fun i x hi => ?_⟩
 obtain ⟨g, o, xs, ea, hg, Ac, Aa, hx⟩ := h i x hi
 exact ⟨g, o, xs, ea, hz g hg, Ac, Aa, hc _ _ hx⟩
theorem RZ.of_owns {b : Nat} {e : TypeId} {xs : List Value} (h : w.ownsRow b e k v l.length xs) (hz : ∀ g, v.ownBlock = some g → Z g) (hl : l.length ≤ 140737488351232) (hc : ∀ i x, l[i]? = some x → c w x ((xs.drop (i * k)).take k)) : RZ Z k c w l v := by
 obtain ⟨h1, h2⟩ := h
 rcases h2 with ⟨rfl, h0⟩ | ⟨g, cap, Ae, rfl, _, hg, Aa, _, Ad, Ac⟩
 ·have : l = [] := List.eq_nil_of_length_eq_zero h0
  subst this
  exact ⟨_, _, rfl, Nat.le_refl _, Nat.zero_le _, fun i x hi => by simp at hi⟩
 refine ⟨_, cap, rfl, Aa, hl, fun i x hi => ⟨g, 0, (xs.drop (i * k)).take k, rfl, hz g rfl, ?_, ?_, hc i x hi⟩⟩
 ·have Ab : i < l.length := by
   apply Classical.byContradiction
   intro hn
   rw [List.getElem?_eq_none (by omega)] at hi
   cases hi
  have : (i + 1) * k ≤ l.length * k := Nat.mul_le_mul_right k Ab
  rw [Nat.add_mul] at this
  simp [h1]
  omega
 intro j u hu
 rw [List.getElem?_take] at hu
 split at hu
 ·rw [List.getElem?_drop, ← Ac, List.getElem?_take] at hu
  split at hu
  ·rw [Nat.zero_add, cell_of_row w g _ _ _ _ hg, ← Array.getElem?_toList]
   exact hu
  cases hu
 cases hu
end
abbrev Nw (w w' : World) (g : Nat) : Prop := w.heap.size ≤ g ∧ g < w'.heap.size
structure Gz {α : Type} (T k : Nat) (c : (Nat → Prop) → World → α → List Value → Prop) (w : World) (l : List α) (n : Nat) (mv : Value) (wr : World) : Prop where
 low : Below w.heap.size w wr
 len : l.length = n
 body : ∃ (Z : Nat → Prop) (xs : List Value), wr.ownsRow w.heap.size T k mv n xs ∧ (∀ g, Z g → w.heap.size ≤ g ∧ g < wr.heap.size ∧ mv.ownBlock ≠ some g) ∧ ∀ i x, l[i]? = some x → c Z wr x ((xs.drop (i * k)).take k)
theorem RR.lim {α : Type} {N k : Nat} {c : World → α → List Value → Prop} {w : World} {l : List α} {v : Value} (h : RR N k c w l v) : l.length ≤ 140737488351232 := by
 obtain ⟨_, _, _, _, h, _⟩ := h
 exact h
def At1 (w : World) (a : Option Addr) (vs : List Value) : Prop := ∀ i v, vs[i]? = some v → ∃ g o, a = some ⟨g, o, none⟩ ∧ w.cell? ⟨g, o + i, none⟩ = some v
def aq (l : List Int) : List Value := l.map (Value.int .i64)
def ew (l : List Bool) : List Value := l.map Value.bool
theorem cJ {l : List Int} {i : Nat} (hi : i < l.length) : (aq l)[i]? = some (.int .i64 (l.getD i 0)) := by
 unfold aq
 rw [List.getElem?_map, List.getElem?_eq_getElem hi]
 simp [List.getD, hi]
theorem iG {l : List Bool} {i : Nat} (hi : i < l.length) : (ew l)[i]? = some (.bool (l.getD i false)) := by
 unfold ew
 rw [List.getElem?_map, List.getElem?_eq_getElem hi]
 simp [List.getD, hi]
theorem At1.int {w : World} {a : Option Addr} {l : List Int} (h : At1 w a (aq l)) {i : Nat} (hi : i < l.length) : ∃ g o, a = some ⟨g, o, none⟩ ∧ w.cell? ⟨g, o + i, none⟩ = some (.int .i64 (l.getD i 0)) := h i _ (cJ hi)
theorem At1.below {w w' : World} {a : Option Addr} {vs : List Value} (h : At1 w a vs) (hb : Below w.heap.size w w') : At1 w' a vs := by
 intro i v hi
 obtain ⟨g, o, e, hc⟩ := h i v hi
 exact ⟨g, o, e, (World.cell?_of_block (hb.block g (World.block_lt_of_cell? w _ hc))).trans hc⟩
theorem dW {w : World} {b e : Nat} {a : Option Addr} {n c : Nat} {xs : List Value} (h : w.ownsRow b e 1 (.slice a n c) n xs) : At1 w a xs := by
 intro i v hi
 obtain ⟨g, c', e, hc, _⟩ := ie (aI h (Nat.zero_le _)) hi
 cases e
 exact ⟨g, 0, rfl, by rw [Nat.zero_add]; exact hc⟩
theorem vi {α : Type} {l : List α} {d s : α} {k : Nat} (hk : k < l.length) (he : l.getD k d = s) : s ∈ l := by
 rw [List.getD_eq_getElem?_getD, List.getElem?_eq_getElem hk] at he
 exact he ▸ List.getElem_mem hk
theorem uq {α : Type} {l : List α} {d s : α} {k : Nat} (hk : k < l.length) (hn : s ∉ l.take k) (he : ¬ l.getD k d = s) : s ∉ l.take (k + 1) := by
 rw [List.take_add_one, List.mem_append]
 rintro (h | h)
 ·exact hn h
 rw [List.getElem?_eq_getElem hk] at h
 rw [List.getD_eq_getElem?_getD, List.getElem?_eq_getElem hk] at he
 simp at h he
 exact he h.symm
theorem bD {α : Type} {l : List α} {i : Nat} {x : α} (hx : l[i]? = some x) : l.take (i + 1) = l.take i ++ [x] := by rw [List.take_add_one, hx]; rfl
theorem bC {a b : Bool} (h : a = b) : Ending.returned (.bool a) = .returned (.bool b) := by rw [h]
theorem cX {l : List Int} {x : Int} : aq (l ++ [x]) = aq l ++ [.int .i64 x] := by unfold aq; simp
theorem kj {l : List Int} : (aq l).length = l.length := by unfold aq; simp
theorem am {α : Type} {l : List α} {i : Nat} (h : i < l.length) : ∃ x, l[i]? = some x := ⟨l[i], List.getElem?_eq_getElem h⟩
theorem gB : (Tryz.prog.info? 3).map (fun i => (i.zero, i.size, i.bytes)) = some (some (.int .i64 0), 1, 8) := by kernel_rfl
theorem jt : (Tryz.prog.info? 4).map (fun i => (i.zero, i.size, i.bytes)) = some (some (.bool false), 1, 1) := by kernel_rfl
theorem nL : (Tryz.prog.info? 26).map (fun i => (i.zero, i.size, i.bytes)) = some (some (.slice none 0 0), 1, 24) := by kernel_rfl
def cI (_ : World) (a : Int) (xs : List Value) : Prop := xs = [.int .i64 a]
abbrev Ints (N : Nat) (w : World) (l : List Int) (v : Value) : Prop := RR N 1 cI w l v
def cL (N : Nat) (w : World) (a : List Int) (xs : List Value) : Prop := ∃ v, xs = [v] ∧ Ints N w a v
abbrev Lists (N : Nat) (w : World) (l : List (List Int)) (v : Value) : Prop := RR N 1 (cL N) w l v
def cR (N : Nat) (w : World) (r : RuleM) (xs : List Value) : Prop := ∃ v, xs = [.int .i64 r.kind, .int .i64 r.head, v] ∧ Ints N w r.body v
abbrev Rules (N : Nat) (w : World) (l : List RuleM) (v : Value) : Prop := RR N 3 (cR N) w l v
structure TR (N : Nat) (w : World) (T : Th) (fv rv bv : Value) : Prop where
 foes : Lists N w T.foes fv
 rules : Rules N w T.rules rv
 beats : Lists N w T.beats bv
section
variable {N : Nat} {w w' : World} (hb : ∀ g, g < N → w'.heap[g]? = w.heap[g]?)
include hb
theorem Ints.keep {l : List Int} {v : Value} (h : Ints N w l v) : Ints N w' l v := RR.keep h hb fun _ _ h => h
theorem Lists.keep {l : List (List Int)} {v : Value} (h : Lists N w l v) : Lists N w' l v := RR.keep h hb fun _ _ ⟨v, h1, h2⟩ => ⟨v, h1, h2.keep hb⟩
theorem Rules.keep {l : List RuleM} {v : Value} (h : Rules N w l v) : Rules N w' l v := RR.keep h hb fun _ _ ⟨v, h1, h2⟩ => ⟨v, h1, h2.keep hb⟩
theorem TR.keep {T : Th} {fv rv bv : Value} (h : TR N w T fv rv bv) : TR N w' T fv rv bv := ⟨h.foes.keep hb, h.rules.keep hb, h.beats.keep hb⟩
end
section
variable {N N' : Nat} (hN : N ≤ N') {w : World}
include hN
theorem Ints.mono {l : List Int} {v : Value} (h : Ints N w l v) : Ints N' w l v := RR.mono hN h fun _ _ h => h
theorem Lists.mono {l : List (List Int)} {v : Value} (h : Lists N w l v) : Lists N' w l v := RR.mono hN h fun _ _ ⟨v, h1, h2⟩ => ⟨v, h1, Ints.mono hN h2⟩
theorem Rules.mono {l : List RuleM} {v : Value} (h : Rules N w l v) : Rules N' w l v := RR.mono hN h fun _ _ ⟨v, h1, h2⟩ => ⟨v, h1, Ints.mono hN h2⟩
theorem TR.mono {T : Th} {fv rv bv : Value} (h : TR N w T fv rv bv) : TR N' w T fv rv bv := ⟨Lists.mono hN h.foes, Rules.mono hN h.rules, Lists.mono hN h.beats⟩
end
section
variable {w W : World} (hb : Below w.heap.size w W)
include hb
theorem Ints.go {l : List Int} {v : Value} (h : Ints w.heap.size w l v) : Ints W.heap.size W l v := Ints.mono hb.size (h.keep hb.block)
theorem Lists.go {l : List (List Int)} {v : Value} (h : Lists w.heap.size w l v) : Lists W.heap.size W l v := Lists.mono hb.size (h.keep hb.block)
theorem TR.go {T : Th} {fv rv bv : Value} (h : TR w.heap.size w T fv rv bv) : TR W.heap.size W T fv rv bv := TR.mono hb.size (h.keep hb.block)
end
section
variable {N : Nat} {w : World} {a : Option Addr} {n c i : Nat}
theorem ji {l : List Int} (h : Ints N w l (.slice a n c)) {x : Int} (hx : l[i]? = some x) : ∃ g o, a = some ⟨g, o, none⟩ ∧ g < N ∧ w.cell? ⟨g, o + i, none⟩ = some (.int .i64 x) := by
 obtain ⟨g, o, xs, ea, hg, _, hc, rfl⟩ := RR.open h hx
 have c0 := hc 0 _ rfl
 rw [Nat.mul_one] at c0
 exact ⟨g, o, ea, hg, c0⟩
theorem Ints.at1 {l : List Int} (h : Ints N w l (.slice a n c)) : At1 w a (aq l) := by
 intro i v hi
 unfold aq at hi
 rw [List.getElem?_map] at hi
 obtain ⟨x, hx, rfl⟩ := Option.map_eq_some_iff.1 hi
 obtain ⟨g, o, e, _, hc⟩ := ji h hx
 exact ⟨g, o, e, hc⟩
theorem bH {l : List (List Int)} (h : Lists N w l (.slice a n c)) {x : List Int} (hx : l[i]? = some x) : ∃ g o a2 c2, a = some ⟨g, o, none⟩ ∧ g < N ∧ w.cell? ⟨g, o + i, none⟩ = some (.slice a2 x.length c2) ∧ x.length ≤ c2 ∧ x.length ≤ 140737488351232 ∧ Ints N w x (.slice a2 x.length c2) := by
 obtain ⟨g, o, xs, ea, hg, _, hc, v, rfl, hv⟩ := RR.open h hx
 obtain ⟨a2, c2, rfl, h1, h2⟩ := hv.form
 have c0 := hc 0 _ rfl
 rw [Nat.mul_one] at c0
 exact ⟨g, o, a2, c2, ea, hg, c0, h1, h2, hv⟩
theorem dG {l : List RuleM} (h : Rules N w l (.slice a n c)) {x : RuleM} (hx : l[i]? = some x) : ∃ g o a2 c2, a = some ⟨g, o, none⟩ ∧ g < N ∧ w.cell? ⟨g, o + i * 3, none⟩ = some (.int .i64 x.kind) ∧ w.cell? ⟨g, o + i * 3 + 1, none⟩ = some (.int .i64 x.head) ∧ w.cell? ⟨g, o + i * 3 + 2, none⟩ = some (.slice a2 x.body.length c2) ∧ x.body.length ≤ c2 ∧ x.body.length ≤ 140737488351232 ∧ Ints N w x.body (.slice a2 x.body.length c2) := by
 obtain ⟨g, o, xs, ea, hg, _, hc, v, rfl, hv⟩ := RR.open h hx
 obtain ⟨a2, c2, rfl, h1, h2⟩ := hv.form
 exact ⟨g, o, a2, c2, ea, hg, hc 0 _ rfl, hc 1 _ rfl, hc 2 _ rfl, h1, h2, hv⟩
end
set_option maxRecDepth 100000
set_option maxHeartbeats 3200000
theorem aM {α : Type} {l : List α} {k : Nat} {x : α} (h : l[k]? = some x) : l.drop k = x :: l.drop (k + 1) := by
 obtain ⟨hk, e⟩ := List.getElem?_eq_some_iff.1 h
 rw [List.drop_eq_getElem_cons hk, e]
theorem bV {α : Type} {l : List α} {k : Nat} (h : l.length ≤ k) : l.drop k = [] := List.drop_eq_nil_of_le h
theorem At1.get {w : World} {a : Option Addr} {l : List Int} (h : At1 w a (aq l)) {i : Nat} {x : Int} (hi : l[i]? = some x) : ∃ g o, a = some ⟨g, o, none⟩ ∧ w.cell? ⟨g, o + i, none⟩ = some (.int .i64 x) := by
 refine h i _ ?_
 unfold aq
 rw [List.getElem?_map, hi]
 rfl
theorem fN {w : World} {a : Option Addr} {l : List Int} {c : Nat} (h : At1 w a (aq l)) (hl : l.length ≤ 140737488351232) (b : Int) :
    Calls Tryz.prog 101 #[.slice a l.length c, .int .i64 b] w fun e w' => e = .returned (.bool (bP l b)) ∧ w' = w := by
 have HA := hide h
 obtain ⟨o, ho⟩ : ∃ o, bP l b = o := ⟨_, rfl⟩
 rw [ho]
 have HO : Hid (ce b (-1) (l.drop 0) = o) := hide (by rw [List.drop_zero]; exact ho)
 clear h ho
 go_enter Tryz.func101, Tryz.ntmps101
 go_wp2_with fail
 go_loop [5, 10] (fun y x => ∃ (k : Nat) (z : Int), k ≤ l.length ∧ x = .int .i64 k ∧ y = .int .i64 z ∧ Hid (ce b z (l.drop k) = o)) (fun _ x => l.length - (intOf x).toNat)
 case atStart => exact ⟨0, -1, by omega, rfl, rfl, HO⟩
 clear HO
 obtain ⟨k, z, hk, rfl, rfl, HK⟩ := hrel
 by_cases hlt : k < l.length
 ·obtain ⟨x, hx⟩ := am hlt
  obtain ⟨g, of, rfl, kc⟩ := HA.out.get hx
  have HD := hide (aM hx)
  clear hx
  by_cases h1 : x ≤ z
  ·have HR : Hid (false = o) := by
    have := HK.out
    rw [HD.out, ce, if_pos (.inl h1)] at this
    exact this
   clear HK HD
   go_wp2_with fail
   go_ret
   exact ⟨bC HR.out, rfl⟩
  by_cases h2 : b ≤ x
  ·have HR : Hid (false = o) := by
    have := HK.out
    rw [HD.out, ce, if_pos (.inr h2)] at this
    exact this
   clear HK HD
   go_wp2_with fail
   go_ret
   exact ⟨bC HR.out, rfl⟩
  have HR : Hid (ce b x (l.drop (k + 1)) = o) := by
   have := HK.out
   rw [HD.out, ce, if_neg (by omega)] at this
   exact this
  clear HK HD
  go_wp2_with fail
  go_round
  case rel => exact ⟨k + 1, x, by omega, by go_num, rfl, HR⟩
  case measure => simp [intOf]; omega
 have HR : Hid (true = o) := by
  have := HK.out
  rw [bV (by omega)] at this
  exact this
 go_wp2_with fail
 go_ret
 exact ⟨bC HR.out, rfl⟩
theorem tH {w : World} {a : Option Addr} {l : List Int} {c : Nat} (h : At1 w a (aq l)) (hl : l.length ≤ 140737488351232) (s : Int) :
    Calls Tryz.prog 138 #[.slice a l.length c, .int .i64 s] w fun e w' => ∃ i : Int, e = .returned (.int .i64 i) ∧ (0 ≤ i ↔ s ∈ l) ∧ w' = w := by
 have HA := hide h
 clear h
 go_enter Tryz.func138, Tryz.ntmps138
 go_wp2_with fail
 go_loop [8] (fun x => ∃ k : Nat, k ≤ l.length ∧ x = .int .i64 k ∧ Hid (s ∉ l.take k)) (fun x => l.length - (intOf x).toNat)
 case atStart => exact ⟨0, by omega, rfl, hide (by simp)⟩
 obtain ⟨k, hk, rfl, HK⟩ := hrel
 by_cases hlt : k < l.length
 ·obtain ⟨g, o, rfl, kc⟩ := HA.out.int hlt
  by_cases he : l.getD k 0 = s
  ·have HP := hide (vi hlt he)
   rw [he] at kc
   clear he HK
   go_wp2_with fail
   go_ret
   exact ⟨_, rfl, ⟨fun _ => HP.out, fun _ => by omega⟩, rfl⟩
  have HP := hide (uq hlt HK.out he)
  generalize l.getD k 0 = x at kc he
  have Aa : (s == x) = false := beq_eq_false_iff_ne.2 (fun e => he e.symm)
  clear he HK
  go_wp2_with fail
  go_round
  case rel => exact ⟨k + 1, by omega, by go_num, HP⟩
  case measure => simp [intOf]; omega
 have HP : Hid (s ∉ l) := by
  have := HK.out
  rw [List.take_of_length_le (by omega)] at this
  exact this
 go_wp2_with fail
 go_ret
 exact ⟨_, rfl, ⟨fun h => absurd h (by omega), fun h => absurd h HP.out⟩, rfl⟩
theorem dc {w : World} {a : Option Addr} {l : List Int} {c : Nat} (h : At1 w a (aq l)) (hl : l.length ≤ 140737488351232) (s : Int) :
    Calls Tryz.prog 102 #[.slice a l.length c, .int .i64 s] w fun e w' => e = .returned (.bool (decide (s ∈ l))) ∧ w' = w := by
 have C := hide (tH (c := c) h hl s)
 clear h
 go_enter Tryz.func102, Tryz.ntmps102
 go_wp2_with fail
 refine C.out.mono ?_
 rintro _ w1 ⟨i, rfl, hi, hw⟩
 subst w1
 have HI := hide hi
 clear hi C
 go_wp2_with fail
 go_ret
 exact ⟨bC (decide_eq_decide.2 HI.out), rfl⟩
theorem eZ (z b : Int) (w : World) : Calls Tryz.prog 139 #[.int .i64 z, .int .i64 b] w fun e w' => e = .returned (.bool (bU z b)) ∧ w' = w := by
 by_cases h : 0 ≤ z
 ·have HR : Hid (bU z b = decide (z < b)) := hide (by unfold bU; rw [decide_eq_true h, Bool.true_and])
  go_enter Tryz.func139, Tryz.ntmps139
  go_wp2_with fail
  go_ret
  exact ⟨bC HR.out.symm, rfl⟩
 have HR : Hid (bU z b = false) := hide (by unfold bU; rw [decide_eq_false h, Bool.false_and])
 go_enter Tryz.func139, Tryz.ntmps139
 go_wp2_with fail
 go_ret
 exact ⟨bC HR.out.symm, rfl⟩
theorem vg (z : Int) (w : World) : Calls Tryz.prog 127 #[.int .i64 z] w fun e w' => e = .returned (.bool false) ∧ w' = w := by
 go_enter Tryz.func127, Tryz.ntmps127
 go_wp2_with fail
 go_ret
 exact ⟨bC (by simp), rfl⟩
theorem vI (z : Int) (w : World) : Calls Tryz.prog 167 #[.int .i64 z] w fun e w' => e = .returned (.bool false) ∧ w' = w := by
 go_enter Tryz.func167, Tryz.ntmps167
 go_wp2_with fail
 go_ret
 exact ⟨bC (by simp), rfl⟩
theorem qP (x y : Int) (w : World) : Calls Tryz.prog 166 #[.int .i64 x, .int .i64 y] w fun e w' => e = .returned (.bool (decide (x < y))) ∧ w' = w := by
 have C := hide (vg x w)
 go_enter Tryz.func166, Tryz.ntmps166
 go_wp2_with fail
 refine C.out.mono ?_
 rintro _ w1 ⟨rfl, hw⟩
 subst w1
 go_wp2_with fail
 go_ret
 exact ⟨rfl, rfl⟩
set_option maxRecDepth 100000
set_option maxHeartbeats 6400000
theorem lJ {l : List Int} (h : l.Pairwise (· < ·)) {i j : Nat} {x y : Int} (hi : l[i]? = some x) (hj : l[j]? = some y) (hij : i < j) : x < y := by
 obtain ⟨h1, rfl⟩ := List.getElem?_eq_some_iff.1 hi
 obtain ⟨h2, rfl⟩ := List.getElem?_eq_some_iff.1 hj
 exact List.pairwise_iff_getElem.1 h i j h1 h2 hij
def Sr (l : List Int) (t : Int) (e : Ending) : Prop := ∃ z : Int, e = .returned (.tuple #[.int .i64 z, .bool (decide (t ∈ l))])
structure Bs (l : List Int) (t : Int) (i j : Nat) : Prop where
 le : i ≤ j
 n : j ≤ l.length
 lo : ∀ (m : Nat) x, m < i → l[m]? = some x → x < t
 hi : ∀ (m : Nat) x, j ≤ m → l[m]? = some x → t ≤ x
theorem jS {w : World} {a : Option Addr} {l : List Int} {c : Nat} (h : At1 w a (aq l)) (hl : l.length ≤ 140737488351232) (hp : l.Pairwise (· < ·)) (t : Int) :
    Calls Tryz.prog 140 #[.slice a l.length c, .int .i64 t] w fun e w' => Sr l t e ∧ w' = w := by
 have HA := hide h
 have HP := hide hp
 clear h hp
 go_enter Tryz.func140, Tryz.ntmps140
 go_wp2_with fail
 go_loop [7, 8] (fun x y => ∃ (i j : Nat), x = .int .i64 i ∧ y = .int .i64 j ∧ i ≤ j ∧ j ≤ l.length ∧ Hid (Bs l t i j)) (fun x y => (intOf y).toNat - (intOf x).toNat)
 case atStart => exact ⟨0, l.length, rfl, rfl, by omega, by omega, hide ⟨by omega, by omega, fun m x hm => by omega, fun m x hm hx => by rw [List.getElem?_eq_none (by omega)] at hx; cases hx⟩⟩
 obtain ⟨i, j, rfl, rfl, Ac, Ad, HB⟩ := hrel
 by_cases hlt : i < j
 ·obtain ⟨x, hx⟩ := am (l := l) (i := (i + j) / 2) (by omega)
  obtain ⟨g, of, rfl, kc⟩ := HA.out.get hx
  have HX := hide hx
  have CL := hide (qP x t w)
  clear hx
  by_cases hxt : x < t
  ·have HN : Hid (Bs l t ((i + j) / 2 + 1) j) := hide ⟨by omega, HB.out.n, fun m y hm hy => by
    by_cases e : m = (i + j) / 2
    ·subst e; rw [HX.out] at hy; cases hy; exact hxt
    have := lJ HP.out hy HX.out (by omega); omega, HB.out.hi⟩
   clear HX HB
   go_wp2_with (go_at_call 166; refine CL.out.mono ?_; rintro _ w1 ⟨rfl, hw⟩; subst w1)
   go_round
   case rel => exact ⟨(i + j) / 2 + 1, j, by go_num, rfl, by omega, by omega, HN⟩
   case measure => simp [intOf]; omega
  have HN : Hid (Bs l t i ((i + j) / 2)) := hide ⟨by omega, by omega, HB.out.lo, fun m y hm hy => by
   by_cases e : m = (i + j) / 2
   ·subst e; rw [HX.out] at hy; cases hy; omega
   have := lJ HP.out HX.out hy (by omega); omega⟩
  clear HX HB
  go_wp2_with (go_at_call 166; refine CL.out.mono ?_; rintro _ w1 ⟨rfl, hw⟩; subst w1)
  go_round
  case rel => exact ⟨i, (i + j) / 2, rfl, by go_num, by omega, by omega, HN⟩
  case measure => simp [intOf]; omega
 have e : i = j := by omega
 subst e
 have HN : Hid (∀ (m : Nat) x, l[m]? = some x → x = t → m = i) := hide fun m x hm hx => by
  subst hx
  have h1 : ¬ m < i := fun h => by have := HB.out.lo m x h hm; omega
  by_cases h2 : m = i
  ·exact h2
  obtain ⟨y, hy⟩ := am (l := l) (i := i) (by have := (List.getElem?_eq_some_iff.1 hm).1; omega)
  have h3 := HB.out.hi i y (Nat.le_refl _) hy
  have h4 := lJ HP.out hy hm (by omega)
  omega
 clear HB HP
 by_cases hil : i < l.length
 ·obtain ⟨x, hx⟩ := am hil
  obtain ⟨g, of, rfl, kc⟩ := HA.out.get hx
  by_cases hxt : x = t
  ·subst hxt
   have HR : Hid (x ∈ l) := hide (List.mem_of_getElem? hx)
   clear hx HN hlt
   go_wp2_with fail
   go_ret2
   exact ⟨⟨_, by rw [decide_eq_true HR.out]; rfl⟩, rfl⟩
  have HR : Hid (¬ t ∈ l) := hide fun hm => by
   obtain ⟨m, Aa, Ab⟩ := List.mem_iff_getElem.1 hm
   have h1 := List.getElem?_eq_getElem Aa
   rw [Ab] at h1
   have := HN.out m t h1 rfl
   subst this
   rw [hx] at h1
   cases h1
   exact hxt rfl
  have Ae : (x == t) = false := beq_eq_false_iff_ne.2 hxt
  have CN := hide (vI x w)
  clear hx HN hlt hxt
  go_wp2_with (go_at_call 167; refine CN.out.mono ?_; rintro _ w1 ⟨rfl, hw⟩; subst w1)
  go_ret2
  exact ⟨⟨_, by rw [decide_eq_false HR.out]; rfl⟩, rfl⟩
 have HR : Hid (¬ t ∈ l) := hide fun hm => by
  obtain ⟨m, Aa, Ab⟩ := List.mem_iff_getElem.1 hm
  have h1 := List.getElem?_eq_getElem Aa
  have := HN.out m _ h1 Ab
  omega
 clear HN hlt
 go_wp2_with fail
 go_ret2
 exact ⟨⟨_, by rw [decide_eq_false HR.out]; rfl⟩, rfl⟩
theorem jq (x y : Int) : (if y < x then y else x) = min x y := by rw [Int.min_def]; split <;> split <;> omega
theorem xw {w : World} {a : Option Addr} {l : List Int} {c : Nat} (h : At1 w a (aq l)) (hl : l.length ≤ 140737488351232) (hne : 1 ≤ l.length) :
    Calls Tryz.prog 108 #[.slice a l.length c] w fun e w' => e = .returned (.int .i64 (minM l)) ∧ w' = w := by
 have HA := hide h
 obtain ⟨x0, Aa⟩ := am (l := l) (i := 0) (by omega)
 obtain ⟨g, of, rfl, kc⟩ := h.get Aa
 have HM : Hid (minM l = (l.drop 1).foldl min x0) := hide (by
  have := aM Aa
  rw [List.drop_zero] at this
  conv => lhs; rw [this]
  rfl)
 obtain ⟨o, ho⟩ : ∃ o, minM l = o := ⟨_, rfl⟩
 rw [ho]
 rw [ho] at HM
 rw [Nat.add_zero] at kc
 clear h Aa ho
 go_enter Tryz.func108, Tryz.ntmps108
 go_wp2_with fail
 go_loop [3, 4] (fun y x => ∃ (k : Nat) (z : Int), 1 ≤ k ∧ k ≤ l.length ∧ x = .int .i64 k ∧ y = .int .i64 z ∧ Hid (o = (l.drop k).foldl min z)) (fun _ x => l.length - (intOf x).toNat)
 case atStart => exact ⟨1, x0, by omega, by omega, rfl, rfl, HM⟩
 clear HM kc
 obtain ⟨k, z, Ab, hk, rfl, rfl, HK⟩ := hrel
 by_cases hlt : k < l.length
 ·obtain ⟨x, hx⟩ := am hlt
  obtain ⟨_, _, e, kc⟩ := HA.out.get hx
  cases e
  have HN : Hid (o = (l.drop (k + 1)).foldl min (min z x)) := hide (by rw [HK.out, aM hx]; rfl)
  clear hx HK
  go_wp2_with fail
  go_round
  case rel => exact ⟨k + 1, min z x, by omega, by omega, by go_num, by rw [jq], HN⟩
  case measure => simp [intOf]; omega
 have HN : Hid (o = z) := hide (by rw [HK.out, bV (by omega)]; rfl)
 clear HK
 go_wp2_with fail
 go_ret
 exact ⟨by rw [HN.out]; rfl, rfl⟩
end Go.Proofs.YtmlhcncagdfjfaaGreat
