/- The law's small theory. -/
import Derived.Test.YtdmnoeooljofcaaPrs
namespace Go.Proofs.Ytdmnoeooljofcaa
open Go.RowKit
theorem RR.blk {α : Type} {N k : Nat} {c : World → α → List Value → Prop} {w : World} {l : List α} {g T cap : Nat} {vs : List Value} (hg : Fx g T vs w) (hN : g < N) (hcap : l.length ≤ cap) (hlim : l.length ≤ 140737488351232)
    (hc : ∀ i x, l[i]? = some x → ∃ xs, xs.length = k ∧ (∀ j u, xs[j]? = some u → vs[i * k + j]? = some u) ∧ c w x xs) : RR N k c w l (.slice (some ⟨g, 0, none⟩) l.length cap) := by
  refine ⟨_, cap, rfl, hcap, hlim, fun i x hi => ?_⟩
  obtain ⟨xs, h1, h2, h3⟩ := hc i x hi
  exact ⟨g, 0, xs, rfl, hN, h1, fun j u hu => by rw [Nat.zero_add]; exact hg.get (h2 j u hu), h3⟩
theorem RR.none {α : Type} {N k : Nat} {c : World → α → List Value → Prop} {w : World} : RR N k c w [] (.slice .none 0 0) := ⟨_, _, rfl, Nat.le_refl _, Nat.zero_le _, fun i x hi => by simp at hi⟩
theorem one_at {vs : List Value} {i : Nat} {x : Value} (h : vs[i]? = some x) : ∀ j u, [x][j]? = some u → vs[i * 1 + j]? = some u := by
  intro j u hu
  match j, hu with
  | 0, hu => simp at hu; subst hu; simpa using h
theorem Ints.blk {N g T : Nat} {w : World} {l : List Int} (hg : Fx g T (ints l) w) (hN : g < N) (hlim : l.length ≤ 140737488351232) : Ints N w l (.slice (some ⟨g, 0, none⟩) l.length l.length) :=
  RR.blk hg hN (Nat.le_refl _) hlim fun i x hi => ⟨[.int .i64 x], rfl, one_at (by unfold ints; rw [List.getElem?_map, hi]; rfl), rfl⟩
theorem Lists.blk {N g T : Nat} {w : World} {l : List (List Int)} {vs : List Value} (hg : Fx g T vs w) (hN : g < N) (hlim : l.length ≤ 140737488351232) (hc : ∀ (i : Nat) x, l[i]? = some x → ∃ v, vs[i]? = some v ∧ Ints N w x v) : Lists N w l (.slice (some ⟨g, 0, none⟩) l.length l.length) :=
  RR.blk hg hN (Nat.le_refl _) hlim fun i x hi => by
    obtain ⟨v, h1, h2⟩ := hc i x hi
    exact ⟨[v], rfl, one_at h1, v, rfl, h2⟩
theorem two_of {α : Type} {P : Nat → α → Prop} {a b : α} (ha : P 0 a) (hb : P 1 b) : ∀ i x, [a, b][i]? = some x → P i x := by
  intro i x hi
  match i, hi with
  | 0, hi => simp at hi; subst hi; exact ha
  | 1, hi => simp at hi; subst hi; exact hb
/-- The small theory's blocks, in any memory. -/
structure Tb (n : Nat) (w : World) : Prop where
  b1 : Fx (n + 1) 3 (ints [1]) w
  b2 : Fx (n + 1 + 1) 3 (ints [0]) w
  b3 : Fx (n + 1 + 1 + 1) 38 [.slice (some ⟨n + 1, 0, none⟩) 1 1, .slice (some ⟨n + 1 + 1, 0, none⟩) 1 1] w
  b4 : Fx (n + 1 + 1 + 1 + 1) 70 [.int .i64 2, .int .i64 0, .slice none 0 0, .int .i64 2, .int .i64 1, .slice none 0 0] w
  b5 : Fx (n + 1 + 1 + 1 + 1 + 1) 3 (ints [1]) w
  b6 : Fx (n + 1 + 1 + 1 + 1 + 1 + 1) 38 [.slice (some ⟨n + 1 + 1 + 1 + 1 + 1, 0, none⟩) 1 1, .slice none 0 0] w
theorem Tb.ta {n N : Nat} {w : World} (h : Tb n w) (hN : n + 7 ≤ N) : TA N w two (some ⟨n + 1 + 1 + 1, 0, none⟩) 2 (some ⟨n + 1 + 1 + 1 + 1, 0, none⟩) 2 (some ⟨n + 1 + 1 + 1 + 1 + 1 + 1, 0, none⟩) 2 := by
  refine ⟨?_, ?_, ?_⟩
  · exact Lists.blk (l := [[1], [0]]) h.b3 (by omega) (by decide) (two_of ⟨_, rfl, Ints.blk (l := [1]) h.b1 (by omega) (by decide)⟩ ⟨_, rfl, Ints.blk (l := [0]) h.b2 (by omega) (by decide)⟩)
  · refine RR.blk (l := two.rules) (cap := 2) h.b4 (by omega) (by decide) (by decide) (two_of ⟨_, rfl, ?_, _, rfl, RR.none⟩ ⟨_, rfl, ?_, _, rfl, RR.none⟩)
    · intro j u hu; match j, hu with
      | 0, hu => exact hu
      | 1, hu => exact hu
      | 2, hu => exact hu
    · intro j u hu; match j, hu with
      | 0, hu => exact hu
      | 1, hu => exact hu
      | 2, hu => exact hu
  · exact Lists.blk (l := [[1], []]) h.b6 (by omega) (by decide) (two_of ⟨_, rfl, Ints.blk (l := [1]) h.b5 (by omega) (by decide)⟩ ⟨_, rfl, RR.none⟩)
theorem seven (w : World) (o0 o1 o2 o3 o4 o5 o6 : Obj) (W : World) (hW : W = ((((((w.alloc o0).alloc o1).alloc o2).alloc o3).alloc o4).alloc o5).alloc o6) : Below w.heap.size w W ∧ W.heap.size = w.heap.size + 7 ∧ W.heap[w.heap.size]? = some o0 ∧ W.heap[w.heap.size + 1]? = some o1 ∧ W.heap[w.heap.size + 1 + 1]? = some o2 ∧ W.heap[w.heap.size + 1 + 1 + 1]? = some o3 ∧ W.heap[w.heap.size + 1 + 1 + 1 + 1]? = some o4 ∧ W.heap[w.heap.size + 1 + 1 + 1 + 1 + 1]? = some o5 ∧ W.heap[w.heap.size + 1 + 1 + 1 + 1 + 1 + 1]? = some o6 := by
  obtain ⟨f, f0, f1, f2, f3⟩ := four w o0 o1 o2 o3
  have hs : ((((w.alloc o0).alloc o1).alloc o2).alloc o3).heap.size = w.heap.size + 1 + 1 + 1 + 1 := by simp
  generalize (((w.alloc o0).alloc o1).alloc o2).alloc o3 = X at *
  have x1 := below_new X o4
  have x2 := below_new (X.alloc o4) o5
  have x3 := below_new ((X.alloc o4).alloc o5) o6
  have s1 : (X.alloc o4).heap.size = X.heap.size + 1 := by simp
  have s2 : ((X.alloc o4).alloc o5).heap.size = X.heap.size + 1 + 1 := by simp
  have s3 : (((X.alloc o4).alloc o5).alloc o6).heap.size = X.heap.size + 1 + 1 + 1 := by simp
  have y1 := heap_alloc_new X o4
  have y2 := heap_alloc_new (X.alloc o4) o5
  have y3 := heap_alloc_new ((X.alloc o4).alloc o5) o6
  rw [hs] at y1
  rw [s1, hs] at y2
  rw [s2, hs] at y3
  have y2' := (x3.block _ (by omega)).trans y2
  have y1' := (x3.block (w.heap.size + 1 + 1 + 1 + 1) (by omega)).trans ((x2.block _ (by omega)).trans y1)
  have hb : Below X.heap.size X (((X.alloc o4).alloc o5).alloc o6) := x1.trans ((x2.mono x1.size).trans (x3.mono (Nat.le_trans x1.size x2.size)))
  subst hW
  exact ⟨f.trans (hb.mono f.size), by rw [s3, hs], (hb.block _ (by omega)).trans f0, (hb.block _ (by omega)).trans f1, (hb.block _ (by omega)).trans f2, (hb.block _ (by omega)).trans f3, y1', y2', y3⟩
def twoW (w : World) : World := ((((((w.alloc (.cells #[.int .i64 2, .slice (some ⟨w.heap.size + 1 + 1 + 1, 0, none⟩) 2 2, .slice (some ⟨w.heap.size + 1 + 1 + 1 + 1, 0, none⟩) 2 2, .slice (some ⟨w.heap.size + 1 + 1 + 1 + 1 + 1 + 1, 0, none⟩) 2 2] 27)).alloc (.cells #[.int .i64 1] 3)).alloc (.cells #[.int .i64 0] 3)).alloc (.cells #[.slice (some ⟨w.heap.size + 1, 0, none⟩) 1 1, .slice (some ⟨w.heap.size + 1 + 1, 0, none⟩) 1 1] 38)).alloc (.cells #[.int .i64 2, .int .i64 0, .slice none 0 0, .int .i64 2, .int .i64 1, .slice none 0 0] 70)).alloc (.cells #[.int .i64 1] 3)).alloc (.cells #[.slice (some ⟨w.heap.size + 1 + 1 + 1 + 1 + 1, 0, none⟩) 1 1, .slice none 0 0] 38)
set_option maxRecDepth 100000 in
set_option maxHeartbeats 3200000 in
theorem two_any (w : World) : Calls Try.prog 30 #[] w fun e w' => ∃ fa ra ba, e = .returned (tv two fa 2 ra 2 ba 2) ∧ TA w'.heap.size w' two fa 2 ra 2 ba 2 ∧ Below w.heap.size w w' := by
  go_enter Try.func30, Try.ntmps30
  go_wp2_with fail
  obtain ⟨h1, h2, h3, h4, h5, h6, h7, h8, h9⟩ := seven w _ _ _ _ _ _ _ (twoW w) rfl
  show bodyPost _ _ _ _ _ (twoW w)
  generalize twoW w = W at *
  have T := Tb.ta (n := w.heap.size) (N := W.heap.size) (w := W) ⟨h4, h5, h6, h7, h8, h9⟩ (by omega)
  obtain ⟨-, c0, c1, c2, c3⟩ := Bt.of h3
  refine ⟨rfl, tv two (some ⟨w.heap.size + 1 + 1 + 1, 0, none⟩) 2 (some ⟨w.heap.size + 1 + 1 + 1 + 1, 0, none⟩) 2 (some ⟨w.heap.size + 1 + 1 + 1 + 1 + 1 + 1, 0, none⟩) 2, ?_, _, _, _, rfl, T, h1⟩
  simp [results, Try.results30, go_sem, c0, c1, c2, c3, tv, two]
end Go.Proofs.Ytdmnoeooljofcaa
