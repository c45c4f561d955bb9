/- A statute and a literal's text copied side by side, in whatever order. By program (tools/gen8/lrg9.py). -/
import Derived.Test.YtfnobccminhjpaaGreatCopX9
import Derived.Test.YtfnobccminhjpaaGreatInv9
import Derived.Test.YtfnobccminhjpaaGreatCz9
import Derived.Deep.RegionHeld3
import Derived.Laws.StructEq
namespace Go.Proofs.YtfnobccminhjpaaGreat
open Go.RowKit Go.Shelf Go.Maps Go.WideMaps
open Rg

/-- New blocks but for the two boxes. -/
def Xs (n0 : Nat) (L : Nat → Bool) (σ : Nat → Value) (w : World) (g : Nat) : Prop := n0 ≤ g ∧ g < w.heap.size ∧ (L 4 = true → σ 5 ≠ ptr g) ∧ (L 5 = true → σ 6 ≠ ptr g)
theorem Xs.go {n0 : Nat} {L L' : Nat → Bool} {σ σ' : Nat → Value} {w w' : World} (hs : w.heap.size ≤ w'.heap.size) (h5 : L' 4 = true → (L 4 = true ∧ σ' 5 = σ 5) ∨ σ' 5 = ptr w.heap.size) (h6 : L' 5 = true → (L 5 = true ∧ σ' 6 = σ 6) ∨ σ' 6 = ptr w.heap.size)
    (hb : ∀ g, Xs n0 L σ w g → w'.heap[g]? = w.heap[g]?) : Ag (Xs n0 L σ w) (Xs n0 L' σ' w') w w' := fun g hg => by
  refine ⟨⟨hg.1, Nat.lt_of_lt_of_le hg.2.1 hs, fun h => ?_, fun h => ?_⟩, hb g hg⟩
  · rcases h5 h with ⟨h1, h2⟩ | h2
    · rw [h2]; exact hg.2.2.1 h1
    · rw [h2]
      intro e
      have := hg.2.1
      simp only [Value.pointer.injEq, Option.some.injEq, Addr.mk.injEq, and_true] at e
      omega
  · rcases h6 h with ⟨h1, h2⟩ | h2
    · rw [h2]; exact hg.2.2.2 h1
    · rw [h2]
      intro e
      have := hg.2.1
      simp only [Value.pointer.injEq, Option.some.injEq, Addr.mk.injEq, and_true] at e
      omega
/-- What is done holds. -/
structure Jl (S : StatM) (st : St9) (l : LitM) (LVl : List Value) (h0 : Nat) (W1 : World) (L : Nat → Bool) (σ : Nat → Value) (w : World) : Prop where
  low : Below W1.heap.size W1 w
  s2 : σ 2 = ptr h0
  s3 : σ 3 = ptr (h0 + 1)
  s11 : L 0 = true → σ 11 = st.agg
  s13 : L 2 = true → σ 13 = .agg LVl.toArray
  s12 : L 1 = true → ∃ st', σ 12 = St9.agg st' ∧ SZ (Xs W1.heap.size L σ w) w S st'
  s14 : L 3 = true → ∃ ys, σ 14 = .agg ys.toArray ∧ cLitZ (Xs W1.heap.size L σ w) w l ys
  s5 : L 4 = true → ∃ b cs, σ 5 = ptr b ∧ W1.heap.size ≤ b ∧ w.heap[b]? = some (.cells cs 31 (0, 0)) ∧ cs.size = 9 ∧ (L 6 = true → σ 12 = .agg cs)
  s6 : L 5 = true → ∃ c cs, σ 6 = ptr c ∧ W1.heap.size ≤ c ∧ w.heap[c]? = some (.cells cs 59 (0, 0)) ∧ cs.size = 5 ∧ (L 7 = true → σ 14 = .agg cs)
  o6 : L 6 = true → L 1 = true ∧ L 4 = true
  o7 : L 7 = true → L 3 = true ∧ L 5 = true
theorem SZ.keep {Z Z' : Nat → Prop} {w w' : World} {S : StatM} {st : St9} (ag : Ag Z Z' w w') (h : SZ Z w S st) : SZ Z' w' S st :=
  ⟨h.title, kz_kinds ag h.kinds, kz_members ag h.members, kz_preds ag h.preds, kz_classes ag h.classes, kz_sources ag h.sources, kz_rules ag h.rules, kz_excepts ag h.excepts, kz_totals ag h.totals⟩
/-- Nothing but one slot, and memory behind, is new. -/
theorem Jl.same {S : StatM} {st : St9} {l : LitM} {LVl : List Value} {h0 : Nat} {W1 : World} {L : Nat → Bool} {σ : Nat → Value} {w w' : World} {i : Nat} {d : Option Nat} {v : Value} (h : Jl S st l LVl h0 W1 L σ w) (hb : Below w.heap.size w w') (hi : i < 4) (hd : d ≠ some 2 ∧ d ≠ some 3 ∧ d ≠ some 5 ∧ d ≠ some 6)
    (h11 : i = 0 ∨ d ≠ some 11) (h13 : i = 2 ∨ d ≠ some 13) (h12 : i = 1 ∨ d ≠ some 12) (h14 : i = 3 ∨ d ≠ some 14)
    (n11 : i = 0 → v = st.agg ∧ d = some 11) (n13 : i = 2 → v = .agg LVl.toArray ∧ d = some 13) (n12 : i = 1 → d = some 12 ∧ L 6 = false ∧ ∃ st', v = St9.agg st' ∧ SZ (Nw w w') w' S st') (n14 : i = 3 → d = some 14 ∧ L 7 = false ∧ ∃ ys, v = .agg ys.toArray ∧ cLitZ (Nw w w') w' l ys) :
    Jl S st l LVl h0 W1 (more L i) (laid σ d v) w' := by
  obtain ⟨d2, d3, d5, d6⟩ := hd
  have hl := h.low.size
  have m4 : more L i 4 = true → L 4 = true := fun h => more_ne h (by omega)
  have m5 : more L i 5 = true → L 5 = true := fun h => more_ne h (by omega)
  have ag : Ag (Xs W1.heap.size L σ w) (Xs W1.heap.size (more L i) (laid σ d v) w') w w' := Xs.go hb.size (fun h => .inl ⟨m4 h, laid_ne d5⟩) (fun h => .inl ⟨m5 h, laid_ne d6⟩) fun g hg => hb.block g hg.2.1
  have agn : Ag (Nw w w') (Xs W1.heap.size (more L i) (laid σ d v) w') w' w' := fun g hg => ⟨⟨by omega, hg.2, fun e => by
      obtain ⟨b, cs, e1, _, e2, _⟩ := h.s5 (m4 e)
      rw [laid_ne d5, e1]
      intro e3
      simp only [Value.pointer.injEq, Option.some.injEq, Addr.mk.injEq, and_true] at e3
      have := loc_lt e2
      have := hg.1
      omega, fun e => by
      obtain ⟨b, cs, e1, _, e2, _⟩ := h.s6 (m5 e)
      rw [laid_ne d6, e1]
      intro e3
      simp only [Value.pointer.injEq, Option.some.injEq, Addr.mk.injEq, and_true] at e3
      have := loc_lt e2
      have := hg.1
      omega⟩, rfl⟩
  refine ⟨h.low.trans (hb.mono hl), by rw [laid_ne d2]; exact h.s2, by rw [laid_ne d3]; exact h.s3, fun e => ?_, fun e => ?_, fun e => ?_, fun e => ?_, fun e => ?_, fun e => ?_, fun e => ⟨more_of (h.o6 (more_ne e (by omega))).1, more_of (h.o6 (more_ne e (by omega))).2⟩, fun e => ⟨more_of (h.o7 (more_ne e (by omega))).1, more_of (h.o7 (more_ne e (by omega))).2⟩⟩
  · by_cases hi0 : i = 0
    · obtain ⟨e1, e2⟩ := n11 hi0
      rw [e2, laid_eq, e1]
    · rw [laid_ne (h11.resolve_left hi0)]
      exact h.s11 (more_ne e (by omega))
  · by_cases hi0 : i = 2
    · obtain ⟨e1, e2⟩ := n13 hi0
      rw [e2, laid_eq, e1]
    · rw [laid_ne (h13.resolve_left hi0)]
      exact h.s13 (more_ne e (by omega))
  · by_cases hi0 : i = 1
    · obtain ⟨e2, _, st', e1, hz⟩ := n12 hi0
      exact ⟨st', by rw [e2, laid_eq, e1], hz.keep agn⟩
    · obtain ⟨st', e1, hz⟩ := h.s12 (more_ne e (by omega))
      exact ⟨st', by rw [laid_ne (h12.resolve_left hi0)]; exact e1, hz.keep ag⟩
  · by_cases hi0 : i = 3
    · obtain ⟨e2, _, ys, e1, hz⟩ := n14 hi0
      exact ⟨ys, by rw [e2, laid_eq, e1], cLitZ.keep agn hz⟩
    · obtain ⟨ys, e1, hz⟩ := h.s14 (more_ne e (by omega))
      exact ⟨ys, by rw [laid_ne (h14.resolve_left hi0)]; exact e1, cLitZ.keep ag hz⟩
  · obtain ⟨b, cs, e1, e2, e3, e4, e5⟩ := h.s5 (m4 e)
    refine ⟨b, cs, by rw [laid_ne d5]; exact e1, e2, (hb.block b (loc_lt e3)).trans e3, e4, fun e6 => ?_⟩
    have e7 := more_ne e6 (show 6 ≠ i by omega)
    by_cases hi0 : i = 1
    · rw [(n12 hi0).2.1] at e7; cases e7
    · rw [laid_ne (h12.resolve_left hi0)]; exact e5 e7
  · obtain ⟨b, cs, e1, e2, e3, e4, e5⟩ := h.s6 (m5 e)
    refine ⟨b, cs, by rw [laid_ne d6]; exact e1, e2, (hb.block b (loc_lt e3)).trans e3, e4, fun e6 => ?_⟩
    have e7 := more_ne e6 (show 7 ≠ i by omega)
    by_cases hi0 : i = 3
    · rw [(n14 hi0).2.1] at e7; cases e7
    · rw [laid_ne (h14.resolve_left hi0)]; exact e5 e7
/-- A box is made. -/
theorem Jl.box5 {S : StatM} {st : St9} {l : LitM} {LVl : List Value} {h0 : Nat} {W1 : World} {L : Nat → Bool} {σ : Nat → Value} {w : World} {cs : Array Value} (h : Jl S st l LVl h0 W1 L σ w) (hcs : cs.size = 9) (h6 : L 6 = false) :
    Jl S st l LVl h0 W1 (more L 4) (laid σ (some 5) (ptr w.heap.size)) (w.alloc (.cells cs 31)) := by
  have hb : Below w.heap.size w (w.alloc (.cells cs 31)) := (Below.refl _ w).alloc (Nat.le_refl _) _
  have hl := h.low.size
  have ag : Ag (Xs W1.heap.size L σ w) (Xs W1.heap.size (more L 4) (laid σ (some 5) (ptr w.heap.size)) (w.alloc (.cells cs 31))) w (w.alloc (.cells cs 31)) := Xs.go hb.size (fun _ => .inr laid_eq) (fun h => .inl ⟨more_ne h (by omega), laid_ne (by simp)⟩) fun g hg => hb.block g hg.2.1
  refine ⟨h.low.trans (hb.mono hl), by rw [laid_ne (by simp)]; exact h.s2, by rw [laid_ne (by simp)]; exact h.s3, fun e => ?_, fun e => ?_, fun e => ?_, fun e => ?_, fun e => ?_, fun e => ?_, fun e => ⟨more_of (h.o6 (more_ne e (by omega))).1, more_of (h.o6 (more_ne e (by omega))).2⟩, fun e => ⟨more_of (h.o7 (more_ne e (by omega))).1, more_of (h.o7 (more_ne e (by omega))).2⟩⟩
  · rw [laid_ne (by simp)]; exact h.s11 (more_ne e (by omega))
  · rw [laid_ne (by simp)]; exact h.s13 (more_ne e (by omega))
  · obtain ⟨st', e1, hz⟩ := h.s12 (more_ne e (by omega))
    exact ⟨st', by rw [laid_ne (by simp)]; exact e1, hz.keep ag⟩
  · obtain ⟨ys, e1, hz⟩ := h.s14 (more_ne e (by omega))
    exact ⟨ys, by rw [laid_ne (by simp)]; exact e1, cLitZ.keep ag hz⟩
  · exact ⟨w.heap.size, cs, laid_eq, hl, heap_alloc_new w _, hcs, fun e6 => by rw [more_ne e6 (by omega)] at h6; cases h6⟩
  · obtain ⟨b, cs', e1, e2, e3, e4, e5⟩ := h.s6 (more_ne e (by omega))
    exact ⟨b, cs', by rw [laid_ne (by simp)]; exact e1, e2, (hb.block b (loc_lt e3)).trans e3, e4, fun e6 => by rw [laid_ne (by simp)]; exact e5 (more_ne e6 (by omega))⟩
theorem Jl.box6 {S : StatM} {st : St9} {l : LitM} {LVl : List Value} {h0 : Nat} {W1 : World} {L : Nat → Bool} {σ : Nat → Value} {w : World} {cs : Array Value} (h : Jl S st l LVl h0 W1 L σ w) (hcs : cs.size = 5) (h7 : L 7 = false) :
    Jl S st l LVl h0 W1 (more L 5) (laid σ (some 6) (ptr w.heap.size)) (w.alloc (.cells cs 59)) := by
  have hb : Below w.heap.size w (w.alloc (.cells cs 59)) := (Below.refl _ w).alloc (Nat.le_refl _) _
  have hl := h.low.size
  have ag : Ag (Xs W1.heap.size L σ w) (Xs W1.heap.size (more L 5) (laid σ (some 6) (ptr w.heap.size)) (w.alloc (.cells cs 59))) w (w.alloc (.cells cs 59)) := Xs.go hb.size (fun h => .inl ⟨more_ne h (by omega), laid_ne (by simp)⟩) (fun _ => .inr laid_eq) fun g hg => hb.block g hg.2.1
  refine ⟨h.low.trans (hb.mono hl), by rw [laid_ne (by simp)]; exact h.s2, by rw [laid_ne (by simp)]; exact h.s3, fun e => ?_, fun e => ?_, fun e => ?_, fun e => ?_, fun e => ?_, fun e => ?_, fun e => ⟨more_of (h.o6 (more_ne e (by omega))).1, more_of (h.o6 (more_ne e (by omega))).2⟩, fun e => ⟨more_of (h.o7 (more_ne e (by omega))).1, more_of (h.o7 (more_ne e (by omega))).2⟩⟩
  · rw [laid_ne (by simp)]; exact h.s11 (more_ne e (by omega))
  · rw [laid_ne (by simp)]; exact h.s13 (more_ne e (by omega))
  · obtain ⟨st', e1, hz⟩ := h.s12 (more_ne e (by omega))
    exact ⟨st', by rw [laid_ne (by simp)]; exact e1, hz.keep ag⟩
  · obtain ⟨ys, e1, hz⟩ := h.s14 (more_ne e (by omega))
    exact ⟨ys, by rw [laid_ne (by simp)]; exact e1, cLitZ.keep ag hz⟩
  · obtain ⟨b, cs', e1, e2, e3, e4, e5⟩ := h.s5 (more_ne e (by omega))
    exact ⟨b, cs', by rw [laid_ne (by simp)]; exact e1, e2, (hb.block b (loc_lt e3)).trans e3, e4, fun e6 => by rw [laid_ne (by simp)]; exact e5 (more_ne e6 (by omega))⟩
  · exact ⟨w.heap.size, cs, laid_eq, hl, heap_alloc_new w _, hcs, fun e6 => by rw [more_ne e6 (by omega)] at h7; cases h7⟩
/-- A box is filled. -/
theorem Jl.fill5 {S : StatM} {st : St9} {l : LitM} {LVl : List Value} {h0 : Nat} {W1 : World} {L : Nat → Bool} {σ : Nat → Value} {w : World} {b : Nat} {cs : Array Value} {vs : List Value} {v : Value} (h : Jl S st l LVl h0 W1 L σ w) (h1 : L 1 = true) (h4 : L 4 = true) (e1 : σ 5 = ptr b) (hlb : W1.heap.size ≤ b) (e3 : w.heap[b]? = some (.cells cs 31 (0, 0))) (hcs : cs.size = 9) (hv : vs.length = 9) (e12 : σ 12 = .agg vs.toArray) :
    Jl S st l LVl h0 W1 (more L 6) (laid σ none v) (setAll w b 0 vs) := by
  have hl := h.low.size
  have hsame : (setAll w b 0 vs).heap[b]? = some (.cells vs.toArray 31 (0, 0)) := by
    have e := setArr_all (vs := vs) (zs := cs.toList) (pre := []) (by simp [hcs, hv])
    simp only [List.nil_append, List.length_nil, Array.toArray_toList] at e
    rw [setAll_same e3, e]
  have ag : Ag (Xs W1.heap.size L σ w) (Xs W1.heap.size (more L 6) (laid σ none v) (setAll w b 0 vs)) w (setAll w b 0 vs) := Xs.go (by rw [setAll_size]; exact Nat.le_refl _) (fun h => .inl ⟨more_ne h (by omega), laid_ne (by simp)⟩) (fun h => .inl ⟨more_ne h (by omega), laid_ne (by simp)⟩) fun g hg => setAll_other (by intro e; subst e; exact hg.2.2.1 h4 e1)
  refine ⟨setAll_below (by omega) h.low, by rw [laid_ne (by simp)]; exact h.s2, by rw [laid_ne (by simp)]; exact h.s3, fun e => ?_, fun e => ?_, fun e => ?_, fun e => ?_, fun e => ?_, fun e => ?_, fun e => ⟨more_of h1, more_of h4⟩, fun e => ⟨more_of (h.o7 (more_ne e (by omega))).1, more_of (h.o7 (more_ne e (by omega))).2⟩⟩
  · rw [laid_ne (by simp)]; exact h.s11 (more_ne e (by omega))
  · rw [laid_ne (by simp)]; exact h.s13 (more_ne e (by omega))
  · obtain ⟨st', e1, hz⟩ := h.s12 (more_ne e (by omega))
    exact ⟨st', by rw [laid_ne (by simp)]; exact e1, hz.keep ag⟩
  · obtain ⟨ys, e1, hz⟩ := h.s14 (more_ne e (by omega))
    exact ⟨ys, by rw [laid_ne (by simp)]; exact e1, cLitZ.keep ag hz⟩
  · exact ⟨b, vs.toArray, by rw [laid_ne (by simp)]; exact e1, hlb, hsame, by simp [hv], fun _ => by rw [laid_ne (by simp)]; exact e12⟩
  · obtain ⟨c, cs', e1', e2', e3', e4', e5'⟩ := h.s6 (more_ne e (by omega))
    exact ⟨c, cs', by rw [laid_ne (by simp)]; exact e1', e2', (setAll_other (by intro e; subst e; rw [e3] at e3'; cases e3')).trans e3', e4', fun e6 => by rw [laid_ne (by simp)]; exact e5' (more_ne e6 (by omega))⟩
theorem Jl.fill6 {S : StatM} {st : St9} {l : LitM} {LVl : List Value} {h0 : Nat} {W1 : World} {L : Nat → Bool} {σ : Nat → Value} {w : World} {b : Nat} {cs : Array Value} {vs : List Value} {v : Value} (h : Jl S st l LVl h0 W1 L σ w) (h3 : L 3 = true) (h5 : L 5 = true) (e1 : σ 6 = ptr b) (hlb : W1.heap.size ≤ b) (e3 : w.heap[b]? = some (.cells cs 59 (0, 0))) (hcs : cs.size = 5) (hv : vs.length = 5) (e14 : σ 14 = .agg vs.toArray) :
    Jl S st l LVl h0 W1 (more L 7) (laid σ none v) (setAll w b 0 vs) := by
  have hl := h.low.size
  have hsame : (setAll w b 0 vs).heap[b]? = some (.cells vs.toArray 59 (0, 0)) := by
    have e := setArr_all (vs := vs) (zs := cs.toList) (pre := []) (by simp [hcs, hv])
    simp only [List.nil_append, List.length_nil, Array.toArray_toList] at e
    rw [setAll_same e3, e]
  have ag : Ag (Xs W1.heap.size L σ w) (Xs W1.heap.size (more L 7) (laid σ none v) (setAll w b 0 vs)) w (setAll w b 0 vs) := Xs.go (by rw [setAll_size]; exact Nat.le_refl _) (fun h => .inl ⟨more_ne h (by omega), laid_ne (by simp)⟩) (fun h => .inl ⟨more_ne h (by omega), laid_ne (by simp)⟩) fun g hg => setAll_other (by intro e; subst e; exact hg.2.2.2 h5 e1)
  refine ⟨setAll_below (by omega) h.low, by rw [laid_ne (by simp)]; exact h.s2, by rw [laid_ne (by simp)]; exact h.s3, fun e => ?_, fun e => ?_, fun e => ?_, fun e => ?_, fun e => ?_, fun e => ?_, fun e => ⟨more_of (h.o6 (more_ne e (by omega))).1, more_of (h.o6 (more_ne e (by omega))).2⟩, fun e => ⟨more_of h3, more_of h5⟩⟩
  · rw [laid_ne (by simp)]; exact h.s11 (more_ne e (by omega))
  · rw [laid_ne (by simp)]; exact h.s13 (more_ne e (by omega))
  · obtain ⟨st', e1, hz⟩ := h.s12 (more_ne e (by omega))
    exact ⟨st', by rw [laid_ne (by simp)]; exact e1, hz.keep ag⟩
  · obtain ⟨ys, e1, hz⟩ := h.s14 (more_ne e (by omega))
    exact ⟨ys, by rw [laid_ne (by simp)]; exact e1, cLitZ.keep ag hz⟩
  · obtain ⟨c, cs', e1', e2', e3', e4', e5'⟩ := h.s5 (more_ne e (by omega))
    exact ⟨c, cs', by rw [laid_ne (by simp)]; exact e1', e2', (setAll_other (by intro e; subst e; rw [e3] at e3'; cases e3')).trans e3', e4', fun e6 => by rw [laid_ne (by simp)]; exact e5' (more_ne e6 (by omega))⟩
  · exact ⟨b, vs.toArray, by rw [laid_ne (by simp)]; exact e1, hlb, hsame, by simp [hv], fun _ => by rw [laid_ne (by simp)]; exact e14⟩
end Go.Proofs.YtfnobccminhjpaaGreat
/- Two lists of the same plain things are the same. By program (tools/gen8/samz9.py). -/
namespace Go.Proofs.YtfnobccminhjpaaGreat
open Go.RowKit Go.Shelf Go.Maps Go.WideMaps
set_option maxRecDepth 100000 in
set_option maxHeartbeats 3200000 in
theorem sameS_z {w : World} {N N' : Nat} {a b : Option Addr} {l : List (Bytes)} {c d : Nat} (ha : RR N 1 cS w l (.slice a l.length c)) (hb : RR N' 1 cS w l (.slice b l.length d)) :
    Calls Tryz.prog 13 #[.slice a l.length c, .slice b l.length d] w fun e w' => e = .returned (.bool true) ∧ ∃ q, w' = w.drewN q := by
  have HA := hide ha
  have HB := hide hb
  have hlim := ha.lim
  clear ha hb
  go_enter Tryz.func13, Tryz.ntmps13
  go_wp2_with fail
  go_loopw [5] (fun x wr => ∃ i q : Nat, i ≤ l.length ∧ x = .int .i64 i ∧ wr = w.drewN q) (fun x _ => l.length - (intOf x).toNat)
  case atStart => exact ⟨0, 0, by omega, rfl, rfl⟩
  case round =>
    obtain ⟨i, q, hk, rfl, rfl⟩ := hrel
    by_cases hlt : i < l.length
    · obtain ⟨x, hx⟩ : ∃ x, l[i]? = some x := ⟨l[i], List.getElem?_eq_getElem hlt⟩
      obtain ⟨ga, oa, ys, rfl, _, _, hca, hcx⟩ := RR.open HA.out hx
      obtain ⟨gb, ob, zs, rfl, _, _, hcb, hcy⟩ := RR.open HB.out hx
      obtain ⟨rfl, _⟩ := hcx
      obtain ⟨rfl, _⟩ := hcy
      have a0 : w.cell? ⟨ga, oa + i, none⟩ = some (str x) := by have := hca 0 _ rfl; simpa using this
      have b0 : w.cell? ⟨gb, ob + i, none⟩ = some (str x) := by have := hcb 0 _ rfl; simpa using this
      clear hca hcb hx
      unfold str at *
      go_wp2_with fail
      go_quiet (fail)
      go_wp2_with fail
      go_roundw
      case rel => exact ⟨i + 1, _, by omega, by go_num, rfl⟩
      case measure => simp [intOf]; omega
    · go_wp2_with fail
      go_ret
      exact ⟨rfl, q, rfl⟩
set_option maxRecDepth 100000 in
set_option maxHeartbeats 3200000 in
theorem sameV_z {w : World} {N N' : Nat} {a b : Option Addr} {l : List (Int)} {c d : Nat} (ha : RR N 1 cI w l (.slice a l.length c)) (hb : RR N' 1 cI w l (.slice b l.length d)) :
    Calls Tryz.prog 164 #[.slice a l.length c, .slice b l.length d] w fun e w' => e = .returned (.bool true) ∧ ∃ q, w' = w.drewN q := by
  have HA := hide ha
  have HB := hide hb
  have hlim := ha.lim
  clear ha hb
  go_enter Tryz.func164, Tryz.ntmps164
  go_wp2_with fail
  go_loopw [5] (fun x wr => ∃ i q : Nat, i ≤ l.length ∧ x = .int .i64 i ∧ wr = w.drewN q) (fun x _ => l.length - (intOf x).toNat)
  case atStart => exact ⟨0, 0, by omega, rfl, rfl⟩
  case round =>
    obtain ⟨i, q, hk, rfl, rfl⟩ := hrel
    by_cases hlt : i < l.length
    · obtain ⟨x, hx⟩ : ∃ x, l[i]? = some x := ⟨l[i], List.getElem?_eq_getElem hlt⟩
      obtain ⟨ga, oa, ys, rfl, _, _, hca, hcx⟩ := RR.open HA.out hx
      obtain ⟨gb, ob, zs, rfl, _, _, hcb, hcy⟩ := RR.open HB.out hx
      obtain rfl := hcx
      obtain rfl := hcy
      have a0 : w.cell? ⟨ga, oa + i, none⟩ = some (.int .i64 x) := by have := hca 0 _ rfl; simpa using this
      have b0 : w.cell? ⟨gb, ob + i, none⟩ = some (.int .i64 x) := by have := hcb 0 _ rfl; simpa using this
      clear hca hcb hx
      unfold str at *
      go_wp2_with fail
      go_quiet (fail)
      go_wp2_with fail
      go_roundw
      case rel => exact ⟨i + 1, _, by omega, by go_num, rfl⟩
      case measure => simp [intOf]; omega
    · go_wp2_with fail
      go_ret
      exact ⟨rfl, q, rfl⟩
set_option maxRecDepth 100000 in
set_option maxHeartbeats 3200000 in
theorem sameM_z {w : World} {N N' : Nat} {a b : Option Addr} {l : List (Bytes × Bytes)} {c d : Nat} (ha : RR N 2 cM w l (.slice a l.length c)) (hb : RR N' 2 cM w l (.slice b l.length d)) :
    Calls Tryz.prog 60 #[.slice a l.length c, .slice b l.length d] w fun e w' => e = .returned (.bool true) ∧ ∃ q, w' = w.drewN q := by
  have HA := hide ha
  have HB := hide hb
  have hlim := ha.lim
  clear ha hb
  go_enter Tryz.func60, Tryz.ntmps60
  go_wp2_with fail
  go_loopw [5] (fun x wr => ∃ i q : Nat, i ≤ l.length ∧ x = .int .i64 i ∧ wr = w.drewN q) (fun x _ => l.length - (intOf x).toNat)
  case atStart => exact ⟨0, 0, by omega, rfl, rfl⟩
  case round =>
    obtain ⟨i, q, hk, rfl, rfl⟩ := hrel
    by_cases hlt : i < l.length
    · obtain ⟨x, hx⟩ : ∃ x, l[i]? = some x := ⟨l[i], List.getElem?_eq_getElem hlt⟩
      obtain ⟨ga, oa, ys, rfl, _, _, hca, hcx⟩ := RR.open HA.out hx
      obtain ⟨gb, ob, zs, rfl, _, _, hcb, hcy⟩ := RR.open HB.out hx
      obtain ⟨rfl, _, _⟩ := hcx
      obtain ⟨rfl, _, _⟩ := hcy
      have a0 : w.cell? ⟨ga, oa + i * 2, none⟩ = some (str x.1) := hca 0 _ rfl
      have a1 : w.cell? ⟨ga, oa + i * 2 + 1, none⟩ = some (str x.2) := hca 1 _ rfl
      have b0 : w.cell? ⟨gb, ob + i * 2, none⟩ = some (str x.1) := hcb 0 _ rfl
      have b1 : w.cell? ⟨gb, ob + i * 2 + 1, none⟩ = some (str x.2) := hcb 1 _ rfl
      clear hca hcb hx
      unfold str at *
      go_wp2_with fail
      go_quiet (fail)
      go_wp2_with fail
      go_roundw
      case rel => exact ⟨i + 1, _, by omega, by go_num, rfl⟩
      case measure => simp [intOf]; omega
    · go_wp2_with fail
      go_ret
      exact ⟨rfl, q, rfl⟩
set_option maxRecDepth 100000 in
set_option maxHeartbeats 3200000 in
theorem sameE_z {w : World} {N N' : Nat} {a b : Option Addr} {l : List (Bytes × Bytes)} {c d : Nat} (ha : RR N 2 cM w l (.slice a l.length c)) (hb : RR N' 2 cM w l (.slice b l.length d)) :
    Calls Tryz.prog 65 #[.slice a l.length c, .slice b l.length d] w fun e w' => e = .returned (.bool true) ∧ ∃ q, w' = w.drewN q := by
  have HA := hide ha
  have HB := hide hb
  have hlim := ha.lim
  clear ha hb
  go_enter Tryz.func65, Tryz.ntmps65
  go_wp2_with fail
  go_loopw [5] (fun x wr => ∃ i q : Nat, i ≤ l.length ∧ x = .int .i64 i ∧ wr = w.drewN q) (fun x _ => l.length - (intOf x).toNat)
  case atStart => exact ⟨0, 0, by omega, rfl, rfl⟩
  case round =>
    obtain ⟨i, q, hk, rfl, rfl⟩ := hrel
    by_cases hlt : i < l.length
    · obtain ⟨x, hx⟩ : ∃ x, l[i]? = some x := ⟨l[i], List.getElem?_eq_getElem hlt⟩
      obtain ⟨ga, oa, ys, rfl, _, _, hca, hcx⟩ := RR.open HA.out hx
      obtain ⟨gb, ob, zs, rfl, _, _, hcb, hcy⟩ := RR.open HB.out hx
      obtain ⟨rfl, _, _⟩ := hcx
      obtain ⟨rfl, _, _⟩ := hcy
      have a0 : w.cell? ⟨ga, oa + i * 2, none⟩ = some (str x.1) := hca 0 _ rfl
      have a1 : w.cell? ⟨ga, oa + i * 2 + 1, none⟩ = some (str x.2) := hca 1 _ rfl
      have b0 : w.cell? ⟨gb, ob + i * 2, none⟩ = some (str x.1) := hcb 0 _ rfl
      have b1 : w.cell? ⟨gb, ob + i * 2 + 1, none⟩ = some (str x.2) := hcb 1 _ rfl
      clear hca hcb hx
      unfold str at *
      go_wp2_with fail
      go_quiet (fail)
      go_wp2_with fail
      go_roundw
      case rel => exact ⟨i + 1, _, by omega, by go_num, rfl⟩
      case measure => simp [intOf]; omega
    · go_wp2_with fail
      go_ret
      exact ⟨rfl, q, rfl⟩
set_option maxRecDepth 100000 in
set_option maxHeartbeats 3200000 in
theorem sameSr_z {w : World} {N N' : Nat} {a b : Option Addr} {l : List (Bytes × Int)} {c d : Nat} (ha : RR N 2 cSrc w l (.slice a l.length c)) (hb : RR N' 2 cSrc w l (.slice b l.length d)) :
    Calls Tryz.prog 63 #[.slice a l.length c, .slice b l.length d] w fun e w' => e = .returned (.bool true) ∧ ∃ q, w' = w.drewN q := by
  have HA := hide ha
  have HB := hide hb
  have hlim := ha.lim
  clear ha hb
  go_enter Tryz.func63, Tryz.ntmps63
  go_wp2_with fail
  go_loopw [5] (fun x wr => ∃ i q : Nat, i ≤ l.length ∧ x = .int .i64 i ∧ wr = w.drewN q) (fun x _ => l.length - (intOf x).toNat)
  case atStart => exact ⟨0, 0, by omega, rfl, rfl⟩
  case round =>
    obtain ⟨i, q, hk, rfl, rfl⟩ := hrel
    by_cases hlt : i < l.length
    · obtain ⟨x, hx⟩ : ∃ x, l[i]? = some x := ⟨l[i], List.getElem?_eq_getElem hlt⟩
      obtain ⟨ga, oa, ys, rfl, _, _, hca, hcx⟩ := RR.open HA.out hx
      obtain ⟨gb, ob, zs, rfl, _, _, hcb, hcy⟩ := RR.open HB.out hx
      obtain ⟨rfl, _⟩ := hcx
      obtain ⟨rfl, _⟩ := hcy
      have a0 : w.cell? ⟨ga, oa + i * 2, none⟩ = some (str x.1) := hca 0 _ rfl
      have a1 : w.cell? ⟨ga, oa + i * 2 + 1, none⟩ = some (.int .i64 x.2) := hca 1 _ rfl
      have b0 : w.cell? ⟨gb, ob + i * 2, none⟩ = some (str x.1) := hcb 0 _ rfl
      have b1 : w.cell? ⟨gb, ob + i * 2 + 1, none⟩ = some (.int .i64 x.2) := hcb 1 _ rfl
      clear hca hcb hx
      unfold str at *
      go_wp2_with fail
      go_quiet (fail)
      go_wp2_with fail
      go_roundw
      case rel => exact ⟨i + 1, _, by omega, by go_num, rfl⟩
      case measure => simp [intOf]; omega
    · go_wp2_with fail
      go_ret
      exact ⟨rfl, q, rfl⟩
abbrev Tw1 (wr : World) (ga gb oa ob : Nat) (p0 q0 : Value) (X : World) : Prop :=
  X.cell? ⟨ga, oa, none⟩ = some p0 ∧ X.cell? ⟨gb, ob, none⟩ = some q0 ∧ ga < wr.heap.size ∧ gb < wr.heap.size ∧ Below wr.heap.size wr X
theorem Tw1.b {wr : World} {ga gb oa ob : Nat} {p0 q0 : Value} {X : World} (h : Tw1 wr ga gb oa ob p0 q0 X) : Below wr.heap.size wr X := h.2.2.2.2
theorem Tw1.drew {wr : World} {ga gb oa ob : Nat} {p0 q0 : Value} {X : World} (h : Tw1 wr ga gb oa ob p0 q0 X) : Tw1 wr ga gb oa ob p0 q0 X.drew := by
  obtain ⟨h0, h1, k1, k2, k3⟩ := h
  exact ⟨h0, h1, k1, k2, k3.drew⟩
theorem Tw1.below {wr : World} {ga gb oa ob : Nat} {p0 q0 : Value} {X Y : World} (h : Tw1 wr ga gb oa ob p0 q0 X) (hb : Below X.heap.size X Y) : Tw1 wr ga gb oa ob p0 q0 Y := by
  obtain ⟨h0, h1, k1, k2, k3⟩ := h
  have ha : ga < X.heap.size := Nat.lt_of_lt_of_le k1 k3.size
  have hc : gb < X.heap.size := Nat.lt_of_lt_of_le k2 k3.size
  refine ⟨?_, ?_, k1, k2, k3.trans (hb.mono k3.size)⟩ <;> rw [hb.cell (by assumption)] <;> assumption
abbrev Tw4 (wr : World) (ga gb oa ob : Nat) (p0 p1 p2 p3 q0 q1 q2 q3 : Value) (X : World) : Prop :=
  X.cell? ⟨ga, oa, none⟩ = some p0 ∧ X.cell? ⟨ga, oa + 1, none⟩ = some p1 ∧ X.cell? ⟨ga, oa + 2, none⟩ = some p2 ∧ X.cell? ⟨ga, oa + 3, none⟩ = some p3 ∧ X.cell? ⟨gb, ob, none⟩ = some q0 ∧ X.cell? ⟨gb, ob + 1, none⟩ = some q1 ∧ X.cell? ⟨gb, ob + 2, none⟩ = some q2 ∧ X.cell? ⟨gb, ob + 3, none⟩ = some q3 ∧ ga < wr.heap.size ∧ gb < wr.heap.size ∧ Below wr.heap.size wr X
theorem Tw4.b {wr : World} {ga gb oa ob : Nat} {p0 p1 p2 p3 q0 q1 q2 q3 : Value} {X : World} (h : Tw4 wr ga gb oa ob p0 p1 p2 p3 q0 q1 q2 q3 X) : Below wr.heap.size wr X := h.2.2.2.2.2.2.2.2.2.2
theorem Tw4.drew {wr : World} {ga gb oa ob : Nat} {p0 p1 p2 p3 q0 q1 q2 q3 : Value} {X : World} (h : Tw4 wr ga gb oa ob p0 p1 p2 p3 q0 q1 q2 q3 X) : Tw4 wr ga gb oa ob p0 p1 p2 p3 q0 q1 q2 q3 X.drew := by
  obtain ⟨h0, h1, h2, h3, h4, h5, h6, h7, k1, k2, k3⟩ := h
  exact ⟨h0, h1, h2, h3, h4, h5, h6, h7, k1, k2, k3.drew⟩
theorem Tw4.below {wr : World} {ga gb oa ob : Nat} {p0 p1 p2 p3 q0 q1 q2 q3 : Value} {X Y : World} (h : Tw4 wr ga gb oa ob p0 p1 p2 p3 q0 q1 q2 q3 X) (hb : Below X.heap.size X Y) : Tw4 wr ga gb oa ob p0 p1 p2 p3 q0 q1 q2 q3 Y := by
  obtain ⟨h0, h1, h2, h3, h4, h5, h6, h7, k1, k2, k3⟩ := h
  have ha : ga < X.heap.size := Nat.lt_of_lt_of_le k1 k3.size
  have hc : gb < X.heap.size := Nat.lt_of_lt_of_le k2 k3.size
  refine ⟨?_, ?_, ?_, ?_, ?_, ?_, ?_, ?_, k1, k2, k3.trans (hb.mono k3.size)⟩ <;> rw [hb.cell (by assumption)] <;> assumption
abbrev Tw5 (wr : World) (ga gb oa ob : Nat) (p0 p1 p2 p3 p4 q0 q1 q2 q3 q4 : Value) (X : World) : Prop :=
  X.cell? ⟨ga, oa, none⟩ = some p0 ∧ X.cell? ⟨ga, oa + 1, none⟩ = some p1 ∧ X.cell? ⟨ga, oa + 2, none⟩ = some p2 ∧ X.cell? ⟨ga, oa + 3, none⟩ = some p3 ∧ X.cell? ⟨ga, oa + 4, none⟩ = some p4 ∧ X.cell? ⟨gb, ob, none⟩ = some q0 ∧ X.cell? ⟨gb, ob + 1, none⟩ = some q1 ∧ X.cell? ⟨gb, ob + 2, none⟩ = some q2 ∧ X.cell? ⟨gb, ob + 3, none⟩ = some q3 ∧ X.cell? ⟨gb, ob + 4, none⟩ = some q4 ∧ ga < wr.heap.size ∧ gb < wr.heap.size ∧ Below wr.heap.size wr X
theorem Tw5.b {wr : World} {ga gb oa ob : Nat} {p0 p1 p2 p3 p4 q0 q1 q2 q3 q4 : Value} {X : World} (h : Tw5 wr ga gb oa ob p0 p1 p2 p3 p4 q0 q1 q2 q3 q4 X) : Below wr.heap.size wr X := h.2.2.2.2.2.2.2.2.2.2.2.2
theorem Tw5.drew {wr : World} {ga gb oa ob : Nat} {p0 p1 p2 p3 p4 q0 q1 q2 q3 q4 : Value} {X : World} (h : Tw5 wr ga gb oa ob p0 p1 p2 p3 p4 q0 q1 q2 q3 q4 X) : Tw5 wr ga gb oa ob p0 p1 p2 p3 p4 q0 q1 q2 q3 q4 X.drew := by
  obtain ⟨h0, h1, h2, h3, h4, h5, h6, h7, h8, h9, k1, k2, k3⟩ := h
  exact ⟨h0, h1, h2, h3, h4, h5, h6, h7, h8, h9, k1, k2, k3.drew⟩
theorem Tw5.below {wr : World} {ga gb oa ob : Nat} {p0 p1 p2 p3 p4 q0 q1 q2 q3 q4 : Value} {X Y : World} (h : Tw5 wr ga gb oa ob p0 p1 p2 p3 p4 q0 q1 q2 q3 q4 X) (hb : Below X.heap.size X Y) : Tw5 wr ga gb oa ob p0 p1 p2 p3 p4 q0 q1 q2 q3 q4 Y := by
  obtain ⟨h0, h1, h2, h3, h4, h5, h6, h7, h8, h9, k1, k2, k3⟩ := h
  have ha : ga < X.heap.size := Nat.lt_of_lt_of_le k1 k3.size
  have hc : gb < X.heap.size := Nat.lt_of_lt_of_le k2 k3.size
  refine ⟨?_, ?_, ?_, ?_, ?_, ?_, ?_, ?_, ?_, ?_, k1, k2, k3.trans (hb.mono k3.size)⟩ <;> rw [hb.cell (by assumption)] <;> assumption
abbrev Tw11 (wr : World) (ga gb oa ob : Nat) (p0 p1 p2 p3 p4 p5 p6 p7 p8 p9 p10 q0 q1 q2 q3 q4 q5 q6 q7 q8 q9 q10 : Value) (X : World) : Prop :=
  X.cell? ⟨ga, oa, none⟩ = some p0 ∧ X.cell? ⟨ga, oa + 1, none⟩ = some p1 ∧ X.cell? ⟨ga, oa + 2, none⟩ = some p2 ∧ X.cell? ⟨ga, oa + 3, none⟩ = some p3 ∧ X.cell? ⟨ga, oa + 4, none⟩ = some p4 ∧ X.cell? ⟨ga, oa + 5, none⟩ = some p5 ∧ X.cell? ⟨ga, oa + 6, none⟩ = some p6 ∧ X.cell? ⟨ga, oa + 7, none⟩ = some p7 ∧ X.cell? ⟨ga, oa + 8, none⟩ = some p8 ∧ X.cell? ⟨ga, oa + 9, none⟩ = some p9 ∧ X.cell? ⟨ga, oa + 10, none⟩ = some p10 ∧ X.cell? ⟨gb, ob, none⟩ = some q0 ∧ X.cell? ⟨gb, ob + 1, none⟩ = some q1 ∧ X.cell? ⟨gb, ob + 2, none⟩ = some q2 ∧ X.cell? ⟨gb, ob + 3, none⟩ = some q3 ∧ X.cell? ⟨gb, ob + 4, none⟩ = some q4 ∧ X.cell? ⟨gb, ob + 5, none⟩ = some q5 ∧ X.cell? ⟨gb, ob + 6, none⟩ = some q6 ∧ X.cell? ⟨gb, ob + 7, none⟩ = some q7 ∧ X.cell? ⟨gb, ob + 8, none⟩ = some q8 ∧ X.cell? ⟨gb, ob + 9, none⟩ = some q9 ∧ X.cell? ⟨gb, ob + 10, none⟩ = some q10 ∧ ga < wr.heap.size ∧ gb < wr.heap.size ∧ Below wr.heap.size wr X
theorem Tw11.b {wr : World} {ga gb oa ob : Nat} {p0 p1 p2 p3 p4 p5 p6 p7 p8 p9 p10 q0 q1 q2 q3 q4 q5 q6 q7 q8 q9 q10 : Value} {X : World} (h : Tw11 wr ga gb oa ob p0 p1 p2 p3 p4 p5 p6 p7 p8 p9 p10 q0 q1 q2 q3 q4 q5 q6 q7 q8 q9 q10 X) : Below wr.heap.size wr X := h.2.2.2.2.2.2.2.2.2.2.2.2.2.2.2.2.2.2.2.2.2.2.2.2
theorem Tw11.drew {wr : World} {ga gb oa ob : Nat} {p0 p1 p2 p3 p4 p5 p6 p7 p8 p9 p10 q0 q1 q2 q3 q4 q5 q6 q7 q8 q9 q10 : Value} {X : World} (h : Tw11 wr ga gb oa ob p0 p1 p2 p3 p4 p5 p6 p7 p8 p9 p10 q0 q1 q2 q3 q4 q5 q6 q7 q8 q9 q10 X) : Tw11 wr ga gb oa ob p0 p1 p2 p3 p4 p5 p6 p7 p8 p9 p10 q0 q1 q2 q3 q4 q5 q6 q7 q8 q9 q10 X.drew := by
  obtain ⟨h0, h1, h2, h3, h4, h5, h6, h7, h8, h9, h10, h11, h12, h13, h14, h15, h16, h17, h18, h19, h20, h21, k1, k2, k3⟩ := h
  exact ⟨h0, h1, h2, h3, h4, h5, h6, h7, h8, h9, h10, h11, h12, h13, h14, h15, h16, h17, h18, h19, h20, h21, k1, k2, k3.drew⟩
theorem Tw11.below {wr : World} {ga gb oa ob : Nat} {p0 p1 p2 p3 p4 p5 p6 p7 p8 p9 p10 q0 q1 q2 q3 q4 q5 q6 q7 q8 q9 q10 : Value} {X Y : World} (h : Tw11 wr ga gb oa ob p0 p1 p2 p3 p4 p5 p6 p7 p8 p9 p10 q0 q1 q2 q3 q4 q5 q6 q7 q8 q9 q10 X) (hb : Below X.heap.size X Y) : Tw11 wr ga gb oa ob p0 p1 p2 p3 p4 p5 p6 p7 p8 p9 p10 q0 q1 q2 q3 q4 q5 q6 q7 q8 q9 q10 Y := by
  obtain ⟨h0, h1, h2, h3, h4, h5, h6, h7, h8, h9, h10, h11, h12, h13, h14, h15, h16, h17, h18, h19, h20, h21, k1, k2, k3⟩ := h
  have ha : ga < X.heap.size := Nat.lt_of_lt_of_le k1 k3.size
  have hc : gb < X.heap.size := Nat.lt_of_lt_of_le k2 k3.size
  refine ⟨?_, ?_, ?_, ?_, ?_, ?_, ?_, ?_, ?_, ?_, ?_, ?_, ?_, ?_, ?_, ?_, ?_, ?_, ?_, ?_, ?_, ?_, k1, k2, k3.trans (hb.mono k3.size)⟩ <;> rw [hb.cell (by assumption)] <;> assumption
end Go.Proofs.YtfnobccminhjpaaGreat
