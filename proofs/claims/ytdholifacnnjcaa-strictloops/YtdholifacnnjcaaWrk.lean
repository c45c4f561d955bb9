/- works: the page's example is laid, in whatever order. (tools/gen14/wk.py wrote this.) -/
import Derived.Test.YtdholifacnnjcaaEx
import Derived.Test.YtdholifacnnjcaaJr9
namespace Go.Proofs.Ytdholifacnnjcaa
open Go.RowKit
open Rg

def Zi (x : Int) (v : Value) (W : World) : Prop := ∃ g, v = .slice (some ⟨g, 0, none⟩) 1 1 ∧ Fx g 3 [.int .i64 x] W
def Zr (h x : Int) (v : Value) (W : World) : Prop := ∃ u, v = .agg #[.int .i64 1, .int .i64 h, u] ∧ Zi x u W
def Zl (k : Nat) (v : Value) (W : World) : Prop := ∃ g, v = .slice (some ⟨g, 0, none⟩) k k ∧ Fx g 26 (List.replicate k (.slice none 0 0)) W
def Z15 (v : Value) (W : World) : Prop := ∃ g a b c, v = .slice (some ⟨g, 0, none⟩) 3 3 ∧ Fx g 36 [.int .i64 1, .int .i64 1, a, .int .i64 1, .int .i64 2, b, .int .i64 1, .int .i64 3, c] W ∧ Zi 0 a W ∧ Zi 1 b W ∧ Zi 3 c W
def Z17 (v : Value) (W : World) : Prop := ∃ a b c, v = .agg #[.int .i64 4, a, b, c] ∧ Zl 4 a W ∧ Z15 b W ∧ Zl 3 c W
section
variable {v : Value} {W W' : World} {x h : Int} {k : Nat}
/-- Blocks of the kinds that are read stay. -/
abbrev Kp (W W' : World) : Prop := ∀ g t (xs : List Value), t ≠ 25 → Fx g t xs W → Fx g t xs W'
theorem kp_below (hb : Below W.heap.size W W') : Kp W W' := fun _ _ _ _ hf => hf.keep (hb.block _ hf.lt)
theorem kp_set {g i : Nat} {u : Value} {xs : List Value} (hf : Fx g 25 xs W) : Kp W (W.setCell ⟨g, i, none⟩ u) := fun _ _ _ ht hx => hx.keep (other_set (fx_ne hx hf ht))
theorem Kp.trans {W'' : World} (h1 : Kp W W') (h2 : Kp W' W'') : Kp W W'' := fun g t xs ht hf => h2 g t xs ht (h1 g t xs ht hf)
theorem Zi.go (h : Zi x v W) (hb : Kp W W') : Zi x v W' := by obtain ⟨g, e, hf⟩ := h; exact ⟨g, e, hb _ _ _ (by decide) hf⟩
theorem Zr.go (hz : Zr h x v W) (hb : Kp W W') : Zr h x v W' := by obtain ⟨u, e, hf⟩ := hz; exact ⟨u, e, hf.go hb⟩
theorem Zl.go (h : Zl k v W) (hb : Kp W W') : Zl k v W' := by obtain ⟨g, e, hf⟩ := h; exact ⟨g, e, hb _ _ _ (by decide) hf⟩
theorem Z15.go (h : Z15 v W) (hb : Kp W W') : Z15 v W' := by obtain ⟨g, a, b, c, e, hf, h1, h2, h3⟩ := h; exact ⟨g, a, b, c, e, hb _ _ _ (by decide) hf, h1.go hb, h2.go hb, h3.go hb⟩
theorem Z17.go (h : Z17 v W) (hb : Kp W W') : Z17 v W' := by obtain ⟨a, b, c, e, h1, h2, h3⟩ := h; exact ⟨a, b, c, e, h1.go hb, h2.go hb, h3.go hb⟩
end
structure Jw (N : Nat) (W0 : World) (L : Nat → Bool) (σ : Nat → Value) (W : World) : Prop where
  low : Below N W0 W
  nn : N ≤ W0.heap.size
  s8 : L 0 = true → Zl 4 (σ 8) W
  s9 : L 1 = true → Zi 0 (σ 9) W
  s10 : L 2 = true → Zr 1 0 (σ 10) W
  s11 : L 3 = true → Zi 1 (σ 11) W
  s12 : L 4 = true → Zr 2 1 (σ 12) W
  s13 : L 5 = true → Zi 3 (σ 13) W
  s14 : L 6 = true → Zr 3 3 (σ 14) W
  s15 : L 7 = true → Z15 (σ 15) W
  s16 : L 8 = true → Zl 3 (σ 16) W
  s17 : L 9 = true → Z17 (σ 17) W
  s1 : L 10 = true → ∃ g xs, σ 1 = ptr g ∧ N ≤ g ∧ Fx g 25 xs W ∧ xs.length = 4 ∧ (L 11 = true → Z17 (.agg xs.toArray) W)
  o11 : L 11 = true → L 10 = true
section
variable {N : Nat} {W0 W W' : World} {L : Nat → Bool} {σ : Nat → Value} {v : Value}
theorem Jw.p0 (h : Jw N W0 L σ W) (hb : Below W.heap.size W W') (hz : Zl 4 v W') : Jw N W0 (more L 0) (laid σ (some 8) v) W' := by
  have hs := h.low.size
  have hn := h.nn
  refine ⟨h.low.trans (hb.mono (by omega)), hn, fun _ => by rw [laid_eq]; exact hz, fun e => by rw [laid_ne (by decide)]; exact (h.s9 (more_ne e (by decide))).go (kp_below hb), fun e => by rw [laid_ne (by decide)]; exact (h.s10 (more_ne e (by decide))).go (kp_below hb), fun e => by rw [laid_ne (by decide)]; exact (h.s11 (more_ne e (by decide))).go (kp_below hb), fun e => by rw [laid_ne (by decide)]; exact (h.s12 (more_ne e (by decide))).go (kp_below hb), fun e => by rw [laid_ne (by decide)]; exact (h.s13 (more_ne e (by decide))).go (kp_below hb), fun e => by rw [laid_ne (by decide)]; exact (h.s14 (more_ne e (by decide))).go (kp_below hb), fun e => by rw [laid_ne (by decide)]; exact (h.s15 (more_ne e (by decide))).go (kp_below hb), fun e => by rw [laid_ne (by decide)]; exact (h.s16 (more_ne e (by decide))).go (kp_below hb), fun e => by rw [laid_ne (by decide)]; exact (h.s17 (more_ne e (by decide))).go (kp_below hb), fun e => ?_, fun e => more_of (h.o11 (more_ne e (by decide)))⟩
  obtain ⟨g, xs, e1, e2, e3, e4, e5⟩ := h.s1 (more_ne e (by decide))
  exact ⟨g, xs, by rw [laid_ne (by decide)]; exact e1, e2, e3.keep (hb.block _ e3.lt), e4, fun q => (e5 (more_ne q (by decide))).go (kp_below hb)⟩
theorem Jw.p1 (h : Jw N W0 L σ W) (hb : Below W.heap.size W W') (hz : Zi 0 v W') : Jw N W0 (more L 1) (laid σ (some 9) v) W' := by
  have hs := h.low.size
  have hn := h.nn
  refine ⟨h.low.trans (hb.mono (by omega)), hn, fun e => by rw [laid_ne (by decide)]; exact (h.s8 (more_ne e (by decide))).go (kp_below hb), fun _ => by rw [laid_eq]; exact hz, fun e => by rw [laid_ne (by decide)]; exact (h.s10 (more_ne e (by decide))).go (kp_below hb), fun e => by rw [laid_ne (by decide)]; exact (h.s11 (more_ne e (by decide))).go (kp_below hb), fun e => by rw [laid_ne (by decide)]; exact (h.s12 (more_ne e (by decide))).go (kp_below hb), fun e => by rw [laid_ne (by decide)]; exact (h.s13 (more_ne e (by decide))).go (kp_below hb), fun e => by rw [laid_ne (by decide)]; exact (h.s14 (more_ne e (by decide))).go (kp_below hb), fun e => by rw [laid_ne (by decide)]; exact (h.s15 (more_ne e (by decide))).go (kp_below hb), fun e => by rw [laid_ne (by decide)]; exact (h.s16 (more_ne e (by decide))).go (kp_below hb), fun e => by rw [laid_ne (by decide)]; exact (h.s17 (more_ne e (by decide))).go (kp_below hb), fun e => ?_, fun e => more_of (h.o11 (more_ne e (by decide)))⟩
  obtain ⟨g, xs, e1, e2, e3, e4, e5⟩ := h.s1 (more_ne e (by decide))
  exact ⟨g, xs, by rw [laid_ne (by decide)]; exact e1, e2, e3.keep (hb.block _ e3.lt), e4, fun q => (e5 (more_ne q (by decide))).go (kp_below hb)⟩
theorem Jw.p2 (h : Jw N W0 L σ W) (hb : Below W.heap.size W W') (hz : Zr 1 0 v W') : Jw N W0 (more L 2) (laid σ (some 10) v) W' := by
  have hs := h.low.size
  have hn := h.nn
  refine ⟨h.low.trans (hb.mono (by omega)), hn, fun e => by rw [laid_ne (by decide)]; exact (h.s8 (more_ne e (by decide))).go (kp_below hb), fun e => by rw [laid_ne (by decide)]; exact (h.s9 (more_ne e (by decide))).go (kp_below hb), fun _ => by rw [laid_eq]; exact hz, fun e => by rw [laid_ne (by decide)]; exact (h.s11 (more_ne e (by decide))).go (kp_below hb), fun e => by rw [laid_ne (by decide)]; exact (h.s12 (more_ne e (by decide))).go (kp_below hb), fun e => by rw [laid_ne (by decide)]; exact (h.s13 (more_ne e (by decide))).go (kp_below hb), fun e => by rw [laid_ne (by decide)]; exact (h.s14 (more_ne e (by decide))).go (kp_below hb), fun e => by rw [laid_ne (by decide)]; exact (h.s15 (more_ne e (by decide))).go (kp_below hb), fun e => by rw [laid_ne (by decide)]; exact (h.s16 (more_ne e (by decide))).go (kp_below hb), fun e => by rw [laid_ne (by decide)]; exact (h.s17 (more_ne e (by decide))).go (kp_below hb), fun e => ?_, fun e => more_of (h.o11 (more_ne e (by decide)))⟩
  obtain ⟨g, xs, e1, e2, e3, e4, e5⟩ := h.s1 (more_ne e (by decide))
  exact ⟨g, xs, by rw [laid_ne (by decide)]; exact e1, e2, e3.keep (hb.block _ e3.lt), e4, fun q => (e5 (more_ne q (by decide))).go (kp_below hb)⟩
theorem Jw.p3 (h : Jw N W0 L σ W) (hb : Below W.heap.size W W') (hz : Zi 1 v W') : Jw N W0 (more L 3) (laid σ (some 11) v) W' := by
  have hs := h.low.size
  have hn := h.nn
  refine ⟨h.low.trans (hb.mono (by omega)), hn, fun e => by rw [laid_ne (by decide)]; exact (h.s8 (more_ne e (by decide))).go (kp_below hb), fun e => by rw [laid_ne (by decide)]; exact (h.s9 (more_ne e (by decide))).go (kp_below hb), fun e => by rw [laid_ne (by decide)]; exact (h.s10 (more_ne e (by decide))).go (kp_below hb), fun _ => by rw [laid_eq]; exact hz, fun e => by rw [laid_ne (by decide)]; exact (h.s12 (more_ne e (by decide))).go (kp_below hb), fun e => by rw [laid_ne (by decide)]; exact (h.s13 (more_ne e (by decide))).go (kp_below hb), fun e => by rw [laid_ne (by decide)]; exact (h.s14 (more_ne e (by decide))).go (kp_below hb), fun e => by rw [laid_ne (by decide)]; exact (h.s15 (more_ne e (by decide))).go (kp_below hb), fun e => by rw [laid_ne (by decide)]; exact (h.s16 (more_ne e (by decide))).go (kp_below hb), fun e => by rw [laid_ne (by decide)]; exact (h.s17 (more_ne e (by decide))).go (kp_below hb), fun e => ?_, fun e => more_of (h.o11 (more_ne e (by decide)))⟩
  obtain ⟨g, xs, e1, e2, e3, e4, e5⟩ := h.s1 (more_ne e (by decide))
  exact ⟨g, xs, by rw [laid_ne (by decide)]; exact e1, e2, e3.keep (hb.block _ e3.lt), e4, fun q => (e5 (more_ne q (by decide))).go (kp_below hb)⟩
theorem Jw.p4 (h : Jw N W0 L σ W) (hb : Below W.heap.size W W') (hz : Zr 2 1 v W') : Jw N W0 (more L 4) (laid σ (some 12) v) W' := by
  have hs := h.low.size
  have hn := h.nn
  refine ⟨h.low.trans (hb.mono (by omega)), hn, fun e => by rw [laid_ne (by decide)]; exact (h.s8 (more_ne e (by decide))).go (kp_below hb), fun e => by rw [laid_ne (by decide)]; exact (h.s9 (more_ne e (by decide))).go (kp_below hb), fun e => by rw [laid_ne (by decide)]; exact (h.s10 (more_ne e (by decide))).go (kp_below hb), fun e => by rw [laid_ne (by decide)]; exact (h.s11 (more_ne e (by decide))).go (kp_below hb), fun _ => by rw [laid_eq]; exact hz, fun e => by rw [laid_ne (by decide)]; exact (h.s13 (more_ne e (by decide))).go (kp_below hb), fun e => by rw [laid_ne (by decide)]; exact (h.s14 (more_ne e (by decide))).go (kp_below hb), fun e => by rw [laid_ne (by decide)]; exact (h.s15 (more_ne e (by decide))).go (kp_below hb), fun e => by rw [laid_ne (by decide)]; exact (h.s16 (more_ne e (by decide))).go (kp_below hb), fun e => by rw [laid_ne (by decide)]; exact (h.s17 (more_ne e (by decide))).go (kp_below hb), fun e => ?_, fun e => more_of (h.o11 (more_ne e (by decide)))⟩
  obtain ⟨g, xs, e1, e2, e3, e4, e5⟩ := h.s1 (more_ne e (by decide))
  exact ⟨g, xs, by rw [laid_ne (by decide)]; exact e1, e2, e3.keep (hb.block _ e3.lt), e4, fun q => (e5 (more_ne q (by decide))).go (kp_below hb)⟩
theorem Jw.p5 (h : Jw N W0 L σ W) (hb : Below W.heap.size W W') (hz : Zi 3 v W') : Jw N W0 (more L 5) (laid σ (some 13) v) W' := by
  have hs := h.low.size
  have hn := h.nn
  refine ⟨h.low.trans (hb.mono (by omega)), hn, fun e => by rw [laid_ne (by decide)]; exact (h.s8 (more_ne e (by decide))).go (kp_below hb), fun e => by rw [laid_ne (by decide)]; exact (h.s9 (more_ne e (by decide))).go (kp_below hb), fun e => by rw [laid_ne (by decide)]; exact (h.s10 (more_ne e (by decide))).go (kp_below hb), fun e => by rw [laid_ne (by decide)]; exact (h.s11 (more_ne e (by decide))).go (kp_below hb), fun e => by rw [laid_ne (by decide)]; exact (h.s12 (more_ne e (by decide))).go (kp_below hb), fun _ => by rw [laid_eq]; exact hz, fun e => by rw [laid_ne (by decide)]; exact (h.s14 (more_ne e (by decide))).go (kp_below hb), fun e => by rw [laid_ne (by decide)]; exact (h.s15 (more_ne e (by decide))).go (kp_below hb), fun e => by rw [laid_ne (by decide)]; exact (h.s16 (more_ne e (by decide))).go (kp_below hb), fun e => by rw [laid_ne (by decide)]; exact (h.s17 (more_ne e (by decide))).go (kp_below hb), fun e => ?_, fun e => more_of (h.o11 (more_ne e (by decide)))⟩
  obtain ⟨g, xs, e1, e2, e3, e4, e5⟩ := h.s1 (more_ne e (by decide))
  exact ⟨g, xs, by rw [laid_ne (by decide)]; exact e1, e2, e3.keep (hb.block _ e3.lt), e4, fun q => (e5 (more_ne q (by decide))).go (kp_below hb)⟩
theorem Jw.p6 (h : Jw N W0 L σ W) (hb : Below W.heap.size W W') (hz : Zr 3 3 v W') : Jw N W0 (more L 6) (laid σ (some 14) v) W' := by
  have hs := h.low.size
  have hn := h.nn
  refine ⟨h.low.trans (hb.mono (by omega)), hn, fun e => by rw [laid_ne (by decide)]; exact (h.s8 (more_ne e (by decide))).go (kp_below hb), fun e => by rw [laid_ne (by decide)]; exact (h.s9 (more_ne e (by decide))).go (kp_below hb), fun e => by rw [laid_ne (by decide)]; exact (h.s10 (more_ne e (by decide))).go (kp_below hb), fun e => by rw [laid_ne (by decide)]; exact (h.s11 (more_ne e (by decide))).go (kp_below hb), fun e => by rw [laid_ne (by decide)]; exact (h.s12 (more_ne e (by decide))).go (kp_below hb), fun e => by rw [laid_ne (by decide)]; exact (h.s13 (more_ne e (by decide))).go (kp_below hb), fun _ => by rw [laid_eq]; exact hz, fun e => by rw [laid_ne (by decide)]; exact (h.s15 (more_ne e (by decide))).go (kp_below hb), fun e => by rw [laid_ne (by decide)]; exact (h.s16 (more_ne e (by decide))).go (kp_below hb), fun e => by rw [laid_ne (by decide)]; exact (h.s17 (more_ne e (by decide))).go (kp_below hb), fun e => ?_, fun e => more_of (h.o11 (more_ne e (by decide)))⟩
  obtain ⟨g, xs, e1, e2, e3, e4, e5⟩ := h.s1 (more_ne e (by decide))
  exact ⟨g, xs, by rw [laid_ne (by decide)]; exact e1, e2, e3.keep (hb.block _ e3.lt), e4, fun q => (e5 (more_ne q (by decide))).go (kp_below hb)⟩
theorem Jw.p7 (h : Jw N W0 L σ W) (hb : Below W.heap.size W W') (hz : Z15 v W') : Jw N W0 (more L 7) (laid σ (some 15) v) W' := by
  have hs := h.low.size
  have hn := h.nn
  refine ⟨h.low.trans (hb.mono (by omega)), hn, fun e => by rw [laid_ne (by decide)]; exact (h.s8 (more_ne e (by decide))).go (kp_below hb), fun e => by rw [laid_ne (by decide)]; exact (h.s9 (more_ne e (by decide))).go (kp_below hb), fun e => by rw [laid_ne (by decide)]; exact (h.s10 (more_ne e (by decide))).go (kp_below hb), fun e => by rw [laid_ne (by decide)]; exact (h.s11 (more_ne e (by decide))).go (kp_below hb), fun e => by rw [laid_ne (by decide)]; exact (h.s12 (more_ne e (by decide))).go (kp_below hb), fun e => by rw [laid_ne (by decide)]; exact (h.s13 (more_ne e (by decide))).go (kp_below hb), fun e => by rw [laid_ne (by decide)]; exact (h.s14 (more_ne e (by decide))).go (kp_below hb), fun _ => by rw [laid_eq]; exact hz, fun e => by rw [laid_ne (by decide)]; exact (h.s16 (more_ne e (by decide))).go (kp_below hb), fun e => by rw [laid_ne (by decide)]; exact (h.s17 (more_ne e (by decide))).go (kp_below hb), fun e => ?_, fun e => more_of (h.o11 (more_ne e (by decide)))⟩
  obtain ⟨g, xs, e1, e2, e3, e4, e5⟩ := h.s1 (more_ne e (by decide))
  exact ⟨g, xs, by rw [laid_ne (by decide)]; exact e1, e2, e3.keep (hb.block _ e3.lt), e4, fun q => (e5 (more_ne q (by decide))).go (kp_below hb)⟩
theorem Jw.p8 (h : Jw N W0 L σ W) (hb : Below W.heap.size W W') (hz : Zl 3 v W') : Jw N W0 (more L 8) (laid σ (some 16) v) W' := by
  have hs := h.low.size
  have hn := h.nn
  refine ⟨h.low.trans (hb.mono (by omega)), hn, fun e => by rw [laid_ne (by decide)]; exact (h.s8 (more_ne e (by decide))).go (kp_below hb), fun e => by rw [laid_ne (by decide)]; exact (h.s9 (more_ne e (by decide))).go (kp_below hb), fun e => by rw [laid_ne (by decide)]; exact (h.s10 (more_ne e (by decide))).go (kp_below hb), fun e => by rw [laid_ne (by decide)]; exact (h.s11 (more_ne e (by decide))).go (kp_below hb), fun e => by rw [laid_ne (by decide)]; exact (h.s12 (more_ne e (by decide))).go (kp_below hb), fun e => by rw [laid_ne (by decide)]; exact (h.s13 (more_ne e (by decide))).go (kp_below hb), fun e => by rw [laid_ne (by decide)]; exact (h.s14 (more_ne e (by decide))).go (kp_below hb), fun e => by rw [laid_ne (by decide)]; exact (h.s15 (more_ne e (by decide))).go (kp_below hb), fun _ => by rw [laid_eq]; exact hz, fun e => by rw [laid_ne (by decide)]; exact (h.s17 (more_ne e (by decide))).go (kp_below hb), fun e => ?_, fun e => more_of (h.o11 (more_ne e (by decide)))⟩
  obtain ⟨g, xs, e1, e2, e3, e4, e5⟩ := h.s1 (more_ne e (by decide))
  exact ⟨g, xs, by rw [laid_ne (by decide)]; exact e1, e2, e3.keep (hb.block _ e3.lt), e4, fun q => (e5 (more_ne q (by decide))).go (kp_below hb)⟩
theorem Jw.p9 (h : Jw N W0 L σ W) (hb : Below W.heap.size W W') (hz : Z17 v W') : Jw N W0 (more L 9) (laid σ (some 17) v) W' := by
  have hs := h.low.size
  have hn := h.nn
  refine ⟨h.low.trans (hb.mono (by omega)), hn, fun e => by rw [laid_ne (by decide)]; exact (h.s8 (more_ne e (by decide))).go (kp_below hb), fun e => by rw [laid_ne (by decide)]; exact (h.s9 (more_ne e (by decide))).go (kp_below hb), fun e => by rw [laid_ne (by decide)]; exact (h.s10 (more_ne e (by decide))).go (kp_below hb), fun e => by rw [laid_ne (by decide)]; exact (h.s11 (more_ne e (by decide))).go (kp_below hb), fun e => by rw [laid_ne (by decide)]; exact (h.s12 (more_ne e (by decide))).go (kp_below hb), fun e => by rw [laid_ne (by decide)]; exact (h.s13 (more_ne e (by decide))).go (kp_below hb), fun e => by rw [laid_ne (by decide)]; exact (h.s14 (more_ne e (by decide))).go (kp_below hb), fun e => by rw [laid_ne (by decide)]; exact (h.s15 (more_ne e (by decide))).go (kp_below hb), fun e => by rw [laid_ne (by decide)]; exact (h.s16 (more_ne e (by decide))).go (kp_below hb), fun _ => by rw [laid_eq]; exact hz, fun e => ?_, fun e => more_of (h.o11 (more_ne e (by decide)))⟩
  obtain ⟨g, xs, e1, e2, e3, e4, e5⟩ := h.s1 (more_ne e (by decide))
  exact ⟨g, xs, by rw [laid_ne (by decide)]; exact e1, e2, e3.keep (hb.block _ e3.lt), e4, fun q => (e5 (more_ne q (by decide))).go (kp_below hb)⟩
theorem Jw.box (h : Jw N W0 L σ W) (h11 : L 11 = false) (xs : List Value) (hx : xs.length = 4) : Jw N W0 (more L 10) (laid σ (some 1) (ptr W.heap.size)) (W.alloc (.cells xs.toArray 25)) := by
  have hs := h.low.size
  have hn := h.nn
  refine ⟨h.low.trans ((below_new W _).mono (by omega)), hn, fun e => by rw [laid_ne (by decide)]; exact (h.s8 (more_ne e (by decide))).go (kp_below (below_new W _)), fun e => by rw [laid_ne (by decide)]; exact (h.s9 (more_ne e (by decide))).go (kp_below (below_new W _)), fun e => by rw [laid_ne (by decide)]; exact (h.s10 (more_ne e (by decide))).go (kp_below (below_new W _)), fun e => by rw [laid_ne (by decide)]; exact (h.s11 (more_ne e (by decide))).go (kp_below (below_new W _)), fun e => by rw [laid_ne (by decide)]; exact (h.s12 (more_ne e (by decide))).go (kp_below (below_new W _)), fun e => by rw [laid_ne (by decide)]; exact (h.s13 (more_ne e (by decide))).go (kp_below (below_new W _)), fun e => by rw [laid_ne (by decide)]; exact (h.s14 (more_ne e (by decide))).go (kp_below (below_new W _)), fun e => by rw [laid_ne (by decide)]; exact (h.s15 (more_ne e (by decide))).go (kp_below (below_new W _)), fun e => by rw [laid_ne (by decide)]; exact (h.s16 (more_ne e (by decide))).go (kp_below (below_new W _)), fun e => by rw [laid_ne (by decide)]; exact (h.s17 (more_ne e (by decide))).go (kp_below (below_new W _)), fun _ => ⟨W.heap.size, xs, by rw [laid_eq], by omega, heap_alloc_new W _, hx, fun q => ?_⟩, fun e => more_at⟩
  have := more_ne q (by decide)
  rw [h11] at this
  cases this
theorem Jw.fill (h : Jw N W0 L σ W) {g : Nat} {xs : List Value} {a b c : Value} (h10 : L 10 = true) (hg : σ 1 = ptr g) (hN : N ≤ g) (hf : Fx g 25 xs W) (hx : xs.length = 4) (hz : Z17 (.agg #[.int .i64 4, a, b, c]) W) :
    Jw N W0 (more L 11) (laid σ none v) ((((W.setCell ⟨g, 0, none⟩ (.int .i64 4)).setCell ⟨g, 1, none⟩ a).setCell ⟨g, 2, none⟩ b).setCell ⟨g, 3, none⟩ c) := by
  have f1 := hf.set 0 (.int .i64 4)
  have f2 := f1.set 1 a
  have f3 := f2.set 2 b
  have f4 := f3.set 3 c
  have hk : Kp W ((((W.setCell ⟨g, 0, none⟩ (.int .i64 4)).setCell ⟨g, 1, none⟩ a).setCell ⟨g, 2, none⟩ b).setCell ⟨g, 3, none⟩ c) := (((kp_set hf).trans (kp_set f1)).trans (kp_set f2)).trans (kp_set f3)
  have hv : (((xs.set 0 (.int .i64 4)).set 1 a).set 2 b).set 3 c = [.int .i64 4, a, b, c] := by
    match xs, hx with
    | [_, _, _, _], _ => rfl
  rw [hv] at f4
  refine ⟨(((h.low.setCell (p := ⟨g, 0, none⟩) hN _).setCell (p := ⟨g, 1, none⟩) hN _).setCell (p := ⟨g, 2, none⟩) hN _).setCell (p := ⟨g, 3, none⟩) hN _, h.nn, fun e => by rw [laid_ne (by decide)]; exact (h.s8 (more_ne e (by decide))).go hk, fun e => by rw [laid_ne (by decide)]; exact (h.s9 (more_ne e (by decide))).go hk, fun e => by rw [laid_ne (by decide)]; exact (h.s10 (more_ne e (by decide))).go hk, fun e => by rw [laid_ne (by decide)]; exact (h.s11 (more_ne e (by decide))).go hk, fun e => by rw [laid_ne (by decide)]; exact (h.s12 (more_ne e (by decide))).go hk, fun e => by rw [laid_ne (by decide)]; exact (h.s13 (more_ne e (by decide))).go hk, fun e => by rw [laid_ne (by decide)]; exact (h.s14 (more_ne e (by decide))).go hk, fun e => by rw [laid_ne (by decide)]; exact (h.s15 (more_ne e (by decide))).go hk, fun e => by rw [laid_ne (by decide)]; exact (h.s16 (more_ne e (by decide))).go hk, fun e => by rw [laid_ne (by decide)]; exact (h.s17 (more_ne e (by decide))).go hk, fun _ => ⟨g, [.int .i64 4, a, b, c], by rw [laid_ne (by decide)]; exact hg, hN, f4, rfl, fun _ => hz.go hk⟩, fun _ => more_of h10⟩
end
theorem at1_fx {g t : Nat} {l : List Int} {w : World} (h : Fx g t (ints l) w) : At1 w (some ⟨g, 0, none⟩) (ints l) := fun i v hi => ⟨g, 0, rfl, by rw [Nat.zero_add]; exact h.get hi⟩
theorem Zi.ints {x : Int} {v : Value} {W : World} (h : Zi x v W) : Ints W.heap.size W [x] v := by
  obtain ⟨g, rfl, hf⟩ := h
  exact Ints.blk (l := [x]) hf hf.lt (by simp)
theorem Zl.lists {k : Nat} {v : Value} {W : World} (h : Zl k v W) (hk : k ≤ 100) : ∃ a, v = .slice a k k ∧ Lists W.heap.size W (List.replicate k []) (.slice a k k) := by
  obtain ⟨g, rfl, hf⟩ := h
  refine ⟨_, rfl, ?_⟩
  have := Lists.blk (N := W.heap.size) (l := List.replicate k []) hf hf.lt (by simp; omega) (fun i x hi => by
    rw [List.getElem?_replicate] at hi ⊢
    split at hi
    · rename_i hik
      cases hi
      rw [if_pos hik]
      exact ⟨_, rfl, RR.none⟩
    · cases hi)
  simpa using this
theorem Z15.rules {v : Value} {W : World} (h : Z15 v W) : ∃ a, v = .slice a 3 3 ∧ Rules W.heap.size W exT.rules (.slice a 3 3) := by
  obtain ⟨g, a, b, c, rfl, hf, h1, h2, h3⟩ := h
  refine ⟨_, rfl, RR.blk (l := exT.rules) (cap := 3) hf hf.lt (by decide) (by decide) ?_⟩
  intro i x hi
  match i, hi with
  | 0, hi =>
    have : (⟨1, 1, [0]⟩ : RuleM) = x := by simpa [exT] using hi
    subst this
    refine ⟨[.int .i64 1, .int .i64 1, a], rfl, fun j u hu => ?_, a, rfl, h1.ints⟩
    match j, hu with
    | 0, hu => exact hu
    | 1, hu => exact hu
    | 2, hu => exact hu
  | 1, hi =>
    have : (⟨1, 2, [1]⟩ : RuleM) = x := by simpa [exT] using hi
    subst this
    refine ⟨[.int .i64 1, .int .i64 2, b], rfl, fun j u hu => ?_, b, rfl, h2.ints⟩
    match j, hu with
    | 0, hu => exact hu
    | 1, hu => exact hu
    | 2, hu => exact hu
  | 2, hi =>
    have : (⟨1, 3, [3]⟩ : RuleM) = x := by simpa [exT] using hi
    subst this
    refine ⟨[.int .i64 1, .int .i64 3, c], rfl, fun j u hu => ?_, c, rfl, h3.ints⟩
    match j, hu with
    | 0, hu => exact hu
    | 1, hu => exact hu
    | 2, hu => exact hu
theorem Z17.ta {xs : List Value} {W : World} (h : Z17 (.agg xs.toArray) W) : ∃ fa ra ba, xs = [.int .i64 4, .slice fa 4 4, .slice ra 3 3, .slice ba 3 3] ∧ TA W.heap.size W exT fa 4 ra 3 ba 3 := by
  obtain ⟨a, b, c, e, h1, h2, h3⟩ := h
  obtain ⟨fa, rfl, hl⟩ := h1.lists (by decide)
  obtain ⟨ra, rfl, hr⟩ := h2.rules
  obtain ⟨ba, rfl, hb⟩ := h3.lists (by decide)
  have e2 : xs = [.int .i64 4, .slice fa 4 4, .slice ra 3 3, .slice ba 3 3] := by
    have := Value.agg.inj e
    exact List.toArray_inj this
  exact ⟨fa, ra, ba, e2, hl, hr, hb⟩
set_option maxRecDepth 100000 in
set_option maxHeartbeats 12800000 in
theorem works_any (w : World) : Calls Try.prog 7 #[] w fun e w' => e = .returned (.bool true) ∧ Below w.heap.size w w' := by
  obtain ⟨iL, hiL, zL0, zL1, zL2⟩ := info_parts infoL
  have hm4 := fun W => run_make_fix (P := Try.prog) Try.underlying22 hiL zL0 zL1 rfl 4 (by rw [zL2]; omega) (by unfold maxLen; omega) W
  have hm3 := fun W => run_make_fix (P := Try.prog) Try.underlying22 hiL zL0 zL1 rfl 3 (by rw [zL2]; omega) (by unfold maxLen; omega) W
  go_enter Try.func7, Try.ntmps7
  go_upto_region 1 with fail
  refine region_j NoE (Jw w.heap.size w.drew) (by kernel_rfl) (by kernel_rfl) ?_ (steps_j ⟨?_, ?_, ?_, ?_, ?_, ?_, ?_, ?_, ?_, ?_, ?_, ?_, trivial⟩) ?_ ?_
  · exact ⟨Below.refl _ _, Nat.le_refl _, fun e => by (cases e), fun e => by (cases e), fun e => by (cases e), fun e => by (cases e), fun e => by (cases e), fun e => by (cases e), fun e => by (cases e), fun e => by (cases e), fun e => by (cases e), fun e => by (cases e), fun e => by (cases e), fun e => by (cases e)⟩
  · intro ρ W L hc hf hL hd _ hJ
    refine does_value (v := .slice (some ⟨W.heap.size, 0, none⟩) 4 4) (w' := W.alloc (.cells (Array.replicate 4 (.slice none 0 0)) 26)) ?_ (hJ.p0 (below_new W _) ⟨W.heap.size, rfl, by unfold Fx; rw [heap_alloc_new]; rfl⟩)
    have hmk : (Instr.makeSlice 22 (.int .i64 4) (.int .i64 4)).run Try.prog W = .ok (.slice (some ⟨W.heap.size, 0, none⟩) 4 4) (W.alloc (.cells (Array.replicate 4 (.slice none 0 0)) 26)) := hm4 W
    clear hd hJ hL
    go_simp
  · intro ρ W L hc hf hL hd _ hJ
    refine does_value (v := .slice (some ⟨W.heap.size, 0, none⟩) 1 1) (w' := W.alloc (.cells #[.int .i64 0] 3)) ?_ (hJ.p1 (below_new W _) ⟨W.heap.size, rfl, heap_alloc_new W _⟩)
    clear hd hJ hL
    go_simp
  · intro ρ W L hc hf hL hd _ hJ
    have h1 : L 1 = true := hd ⟨1, .data⟩ (by simp) rfl
    have hz := hJ.s9 h1
    obtain ⟨g, e, hfx⟩ := hz
    have k1 : ρ (.tmp 9) = .slice (some ⟨g, 0, none⟩) 1 1 := e
    refine does_value (v := .agg #[.int .i64 1, .int .i64 1, .slice (some ⟨g, 0, none⟩) 1 1]) (w' := W) ?_ (hJ.p2 (Below.refl _ _) ⟨_, rfl, g, rfl, hfx⟩)
    clear hd hJ hL hfx e
    go_simp
  · intro ρ W L hc hf hL hd _ hJ
    refine does_value (v := .slice (some ⟨W.heap.size, 0, none⟩) 1 1) (w' := W.alloc (.cells #[.int .i64 1] 3)) ?_ (hJ.p3 (below_new W _) ⟨W.heap.size, rfl, heap_alloc_new W _⟩)
    clear hd hJ hL
    go_simp
  · intro ρ W L hc hf hL hd _ hJ
    have h1 : L 3 = true := hd ⟨3, .data⟩ (by simp) rfl
    have hz := hJ.s11 h1
    obtain ⟨g, e, hfx⟩ := hz
    have k1 : ρ (.tmp 11) = .slice (some ⟨g, 0, none⟩) 1 1 := e
    refine does_value (v := .agg #[.int .i64 1, .int .i64 2, .slice (some ⟨g, 0, none⟩) 1 1]) (w' := W) ?_ (hJ.p4 (Below.refl _ _) ⟨_, rfl, g, rfl, hfx⟩)
    clear hd hJ hL hfx e
    go_simp
  · intro ρ W L hc hf hL hd _ hJ
    refine does_value (v := .slice (some ⟨W.heap.size, 0, none⟩) 1 1) (w' := W.alloc (.cells #[.int .i64 3] 3)) ?_ (hJ.p5 (below_new W _) ⟨W.heap.size, rfl, heap_alloc_new W _⟩)
    clear hd hJ hL
    go_simp
  · intro ρ W L hc hf hL hd _ hJ
    have h1 : L 5 = true := hd ⟨5, .data⟩ (by simp) rfl
    have hz := hJ.s13 h1
    obtain ⟨g, e, hfx⟩ := hz
    have k1 : ρ (.tmp 13) = .slice (some ⟨g, 0, none⟩) 1 1 := e
    refine does_value (v := .agg #[.int .i64 1, .int .i64 3, .slice (some ⟨g, 0, none⟩) 1 1]) (w' := W) ?_ (hJ.p6 (Below.refl _ _) ⟨_, rfl, g, rfl, hfx⟩)
    clear hd hJ hL hfx e
    go_simp
  · intro ρ W L hc hf hL hd _ hJ
    have h1 : L 2 = true := hd ⟨2, .data⟩ (by simp) rfl
    have h2 : L 4 = true := hd ⟨4, .data⟩ (by simp) rfl
    have h3 : L 6 = true := hd ⟨6, .data⟩ (by simp) rfl
    obtain ⟨u1, e1, z1⟩ := hJ.s10 h1
    obtain ⟨u2, e2, z2⟩ := hJ.s12 h2
    obtain ⟨u3, e3, z3⟩ := hJ.s14 h3
    have k1 : ρ (.tmp 10) = .agg #[.int .i64 1, .int .i64 1, u1] := e1
    have k2 : ρ (.tmp 12) = .agg #[.int .i64 1, .int .i64 2, u2] := e2
    have k3 : ρ (.tmp 14) = .agg #[.int .i64 1, .int .i64 3, u3] := e3
    have hb := below_new W (.cells #[.int .i64 1, .int .i64 1, u1, .int .i64 1, .int .i64 2, u2, .int .i64 1, .int .i64 3, u3] 36)
    have HJ := hide (hJ.p7 (v := .slice (some ⟨W.heap.size, 0, none⟩) 3 3) hb ⟨W.heap.size, u1, u2, u3, rfl, heap_alloc_new W _, z1.go (kp_below hb), z2.go (kp_below hb), z3.go (kp_below hb)⟩)
    obtain ⟨g1, rfl, -⟩ := z1
    obtain ⟨g2, rfl, -⟩ := z2
    obtain ⟨g3, rfl, -⟩ := z3
    refine does_value (v := .slice (some ⟨W.heap.size, 0, none⟩) 3 3) (w' := W.alloc (.cells #[.int .i64 1, .int .i64 1, .slice (some ⟨g1, 0, none⟩) 1 1, .int .i64 1, .int .i64 2, .slice (some ⟨g2, 0, none⟩) 1 1, .int .i64 1, .int .i64 3, .slice (some ⟨g3, 0, none⟩) 1 1] 36)) ?_ HJ.out
    clear hd hJ hL HJ hb e1 e2 e3
    go_simp
  · intro ρ W L hc hf hL hd _ hJ
    refine does_value (v := .slice (some ⟨W.heap.size, 0, none⟩) 3 3) (w' := W.alloc (.cells (Array.replicate 3 (.slice none 0 0)) 26)) ?_ (hJ.p8 (below_new W _) ⟨W.heap.size, rfl, by unfold Fx; rw [heap_alloc_new]; rfl⟩)
    have hmk : (Instr.makeSlice 22 (.int .i64 3) (.int .i64 3)).run Try.prog W = .ok (.slice (some ⟨W.heap.size, 0, none⟩) 3 3) (W.alloc (.cells (Array.replicate 3 (.slice none 0 0)) 26)) := hm3 W
    clear hd hJ hL
    go_simp
  · intro ρ W L hc hf hL hd _ hJ
    have h1 : L 0 = true := hd ⟨0, .data⟩ (by simp) rfl
    have h2 : L 7 = true := hd ⟨7, .data⟩ (by simp) rfl
    have h3 : L 8 = true := hd ⟨8, .data⟩ (by simp) rfl
    have z1 := hJ.s8 h1
    have z2 := hJ.s15 h2
    have z3 := hJ.s16 h3
    have HJ := hide fun a b c (hz : Z17 (.agg #[.int .i64 4, a, b, c]) W) => hJ.p9 (v := .agg #[.int .i64 4, a, b, c]) (Below.refl _ _) hz
    have HZ := hide (⟨_, _, _, rfl, z1, z2, z3⟩ : Z17 (.agg #[.int .i64 4, ρ (.tmp 8), ρ (.tmp 15), ρ (.tmp 16)]) W)
    obtain ⟨g1, e1, -⟩ := z1
    obtain ⟨g2, -, -, -, e2, -⟩ := z2
    obtain ⟨g3, e3, -⟩ := z3
    have k1 : ρ (.tmp 8) = .slice (some ⟨g1, 0, none⟩) 4 4 := e1
    have k2 : ρ (.tmp 15) = .slice (some ⟨g2, 0, none⟩) 3 3 := e2
    have k3 : ρ (.tmp 16) = .slice (some ⟨g3, 0, none⟩) 3 3 := e3
    rw [k1, k2, k3] at HZ
    refine does_value (v := .agg #[.int .i64 4, .slice (some ⟨g1, 0, none⟩) 4 4, .slice (some ⟨g2, 0, none⟩) 3 3, .slice (some ⟨g3, 0, none⟩) 3 3]) (w' := W) ?_ (HJ.out _ _ _ HZ.out)
    clear hd hJ hL HJ HZ e1 e2 e3
    go_simp
  · intro ρ W L hc hf hL hd _ hJ
    have h11 : L 11 = false := by
      cases e : L 11 with
      | false => rfl
      | true => rw [hJ.o11 e] at hL; cases hL
    refine does_value (v := ptr W.heap.size) (w' := W.alloc (.cells #[.int .i64 0, .slice none 0 0, .slice none 0 0, .slice none 0 0] 25)) ?_ (hJ.box h11 [.int .i64 0, .slice none 0 0, .slice none 0 0, .slice none 0 0] rfl)
    clear hd hJ hL
    go_simp
  · intro ρ W L hc hf hL hd _ hJ
    have h1 : L 9 = true := hd ⟨9, .data⟩ (by simp) rfl
    have h2 : L 10 = true := hd ⟨10, .data⟩ (by simp) rfl
    obtain ⟨a, b, c, e17, z1, z2, z3⟩ := hJ.s17 h1
    obtain ⟨g, xs, e1, hN, hbx, hxl, -⟩ := hJ.s1 h2
    have k17 : ρ (.tmp 17) = .agg #[.int .i64 4, a, b, c] := e17
    have k1 : ρ (.tmp 1) = ptr g := e1
    have HJ := hide (hJ.fill (v := undef) (a := a) (b := b) (c := c) h2 e1 hN hbx hxl ⟨_, _, _, rfl, z1, z2, z3⟩)
    obtain ⟨g1, rfl, -⟩ := z1
    obtain ⟨g2, -, -, -, rfl, -⟩ := z2
    obtain ⟨g3, rfl, -⟩ := z3
    obtain ⟨t0, t1, t2, t3, rfl⟩ : ∃ t0 t1 t2 t3, xs = [t0, t1, t2, t3] := by
      match xs, hxl with
      | [t0, t1, t2, t3], _ => exact ⟨t0, t1, t2, t3, rfl⟩
    have y0 := hbx.get (i := 0) rfl
    have y1 := hbx.get (i := 1) rfl
    have y2 := hbx.get (i := 2) rfl
    have y3 := hbx.get (i := 3) rfl
    have f0 := hbx.frz 0
    have f1 := hbx.frz 1
    have f2 := hbx.frz 2
    have f3 := hbx.frz 3
    refine does_skip (w' := (((W.setCell ⟨g, 0, none⟩ (.int .i64 4)).setCell ⟨g, 1, none⟩ (.slice (some ⟨g1, 0, none⟩) 4 4)).setCell ⟨g, 2, none⟩ (.slice (some ⟨g2, 0, none⟩) 3 3)).setCell ⟨g, 3, none⟩ (.slice (some ⟨g3, 0, none⟩) 3 3)) ?_ HJ.out
    clear hd hJ hL HJ hbx e17 e1 hN
    go_simp
  · intro c a' w' _ hE
    exact hE.elim
  · rintro ⟨tm, df⟩ w' hsz hdf ⟨L, hL, hJ⟩ hold
    simp only at hdf hsz
    subst hdf
    obtain ⟨g, xs, e1, hN, hbx, hxl, hz⟩ := hJ.s1 (hL 10 (by decide))
    have hz17 := hz (hL 11 (by decide))
    have HLOW := hide hJ.low
    have e1 : tm.getD 1 undef = ptr g := e1
    have htm := frame_keep1 8 17 1 (by kernel_rfl) hsz hold
    simp only [zs, Nat.reduceLT, Nat.reduceAdd, true_or, or_true, or_self, false_and, ne_eq, Nat.reduceEqDiff, not_false_eq_true, not_true_eq_false, and_self, and_false, if_true, if_false, e1] at htm
    rw [htm]
    clear htm hJ hL hold hsz hz e1 hm3 hm4
    generalize tm.getD 8 undef = x8
    generalize tm.getD 9 undef = x9
    generalize tm.getD 10 undef = x10
    generalize tm.getD 11 undef = x11
    generalize tm.getD 12 undef = x12
    generalize tm.getD 13 undef = x13
    generalize tm.getD 14 undef = x14
    generalize tm.getD 15 undef = x15
    generalize tm.getD 16 undef = x16
    generalize tm.getD 17 undef = x17
    obtain ⟨fa, ra, ba, rfl, hta⟩ := hz17.ta
    have HTA := hide hta
    have HBX := hide hbx
    clear hz17 hta hbx hxl e1
    have c0 := HBX.out.get (i := 0) rfl
    have c1 := HBX.out.get (i := 1) rfl
    have c2 := HBX.out.get (i := 2) rfl
    have c3 := HBX.out.get (i := 3) rfl
    have hA := below_new w' (.cells #[.int .i64 0] 3)
    have HI0 : Hid (Ints (w'.alloc (.cells #[.int .i64 0] 3)).heap.size (w'.alloc (.cells #[.int .i64 0] 3)) [0] (.slice (some ⟨w'.heap.size, 0, none⟩) 1 1)) := hide (Ints.blk (l := [0]) (heap_alloc_new w' _) (by simp) (by decide))
    have CP := hide (ex_plus (TR.go hA HTA.out) HI0.out)
    have HTZ : Hid (∀ X, Below w'.heap.size w' X → TA X.heap.size X exT fa 4 ra 3 ba 3) := hide fun X hX => TR.go hX HTA.out
    have HBZ : Hid (∀ X, Below w'.heap.size w' X → Fx g 25 [.int .i64 4, .slice fa 4 4, .slice ra 3 3, .slice ba 3 3] X) := hide fun X hX => HBX.out.keep (hX.block _ HBX.out.lt)
    have HA := hide hA
    clear hA
    go_upto_region 3 with (go_at_call 8; refine CP.out.mono ?_; rintro _ w2 ⟨xa, xc, rfl, hat, hw2⟩; have HAT := hide hat; have HW2 := hide (HA.out.trans (hw2.mono HA.out.size)); clear hat hw2)
    clear c0 c1 c2 c3 CP HI0
    have c0 := (HBZ.out _ HW2.out).get (i := 0) rfl
    have c1 := (HBZ.out _ HW2.out).get (i := 1) rfl
    have c2 := (HBZ.out _ HW2.out).get (i := 2) rfl
    have c3 := (HBZ.out _ HW2.out).get (i := 3) rfl
    have CM := hide (ex_minus (HTZ.out _ HW2.out))
    go_upto_region 4 with (go_at_call 9; refine CM.out.mono ?_; rintro _ w3 ⟨ya, yc, rfl, hat, hw3⟩; have HAT2 := hide hat; have HW3 := hide (HW2.out.trans (hw3.mono HW2.out.size)); have HAT1 := hide (HAT.out.below hw3); clear hat hw3)
    clear c0 c1 c2 c3 CM HAT
    have c0 := (HBZ.out _ HW3.out).get (i := 0) rfl
    have c1 := (HBZ.out _ HW3.out).get (i := 1) rfl
    have c2 := (HBZ.out _ HW3.out).get (i := 2) rfl
    have c3 := (HBZ.out _ HW3.out).get (i := 3) rfl
    have CL := hide (ex_three (HTZ.out _ HW3.out))
    go_upto_region 5 with (go_at_call 13; refine CL.out.mono ?_; rintro _ w4 ⟨za, zc, rfl, hat, hw4⟩; have HAT3 := hide hat; have HW4 := hide (HW3.out.trans (hw4.mono HW3.out.size)); have HATa := hide (HAT1.out.below hw4); have HATb := hide (HAT2.out.below hw4); clear hat hw4)
    clear c0 c1 c2 c3 CL HAT1 HAT2
    have CN := hide num_still
    have HLL : Hid (Below w.heap.size w w4) := hide (by
      have h1 := HLOW.out
      have h2 : Below w.heap.size w w.drew := (Below.refl _ _).drew
      exact (h2.trans h1).trans (HW4.out.mono h1.size))
    go_wp2_with (first | (go_at_call 15; refine (CN.out _ _).mono ?_; rintro _ w9 ⟨rfl, hw9⟩; subst w9) | fail)
    have hA1 := below_new w4 (.cells #[.int .i64 0, .int .i64 1, .int .i64 2] 3)
    refine Calls.mono (sameInts_yes (l := [0, 1, 2]) (c := xc) (d := 3) (HATa.out.below hA1) (at1_fx (heap_alloc_new w4 (.cells #[.int .i64 0, .int .i64 1, .int .i64 2] 3))) (by decide)) ?_
    rintro _ w5 ⟨rfl, hw5⟩
    have HW5 := hide (hA1.trans (hw5.mono hA1.size))
    clear hA1 hw5
    go_wp2_with fail
    have hA2 := below_new w5 (.cells #[.int .i64 0, .int .i64 1, .int .i64 2] 3)
    refine Calls.mono (sameInts_yes (l := [0, 1, 2]) (c := yc) (d := 3) ((HATb.out.below HW5.out).below hA2) (at1_fx (heap_alloc_new w5 (.cells #[.int .i64 0, .int .i64 1, .int .i64 2] 3))) (by decide)) ?_
    rintro _ w6 ⟨rfl, hw6⟩
    have HW6 := hide (HW5.out.trans ((hA2.trans (hw6.mono hA2.size)).mono HW5.out.size))
    clear hA2 hw6
    go_wp2_with fail
    have hA3 := below_new w6 (.cells #[.int .i64 3, .int .i64 3] 3)
    refine Calls.mono (sameInts_yes (l := [3, 3]) (c := zc) (d := 2) ((HAT3.out.below HW6.out).below hA3) (at1_fx (heap_alloc_new w6 (.cells #[.int .i64 3, .int .i64 3] 3))) (by decide)) ?_
    rintro _ w7 ⟨rfl, hw7⟩
    have HW7 := hide (HW6.out.trans ((hA3.trans (hw7.mono hA3.size)).mono HW6.out.size))
    clear hA3 hw7
    go_wp2_with fail
    go_ret
    exact ⟨rfl, HLL.out.trans (HW7.out.mono HLL.out.size)⟩
end Go.Proofs.Ytdholifacnnjcaa

