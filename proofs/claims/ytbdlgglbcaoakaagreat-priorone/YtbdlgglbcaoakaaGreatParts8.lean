/- A rule's parts. -/
import Derived.Test.YtbdlgglbcaoakaaGreatGuard8
namespace Go.Proofs.YtbdlgglbcaoakaaGreat
open Go.RowKit Go.Shelf Go.Maps Go.WideMaps

section
variable {N : Nat} {w : World} {a : Option Addr} {n c i : Nat}
theorem at_Prem {l : List PremM} (h : Prems N w l (.slice a n c)) {x : PremM} (hx : l[i]? = some x) : ∃ g o ka kc la lc ra rc, a = some ⟨g, o, none⟩ ∧ g < N ∧ w.cell? ⟨g, o + i * 11, none⟩ = some (.int .i64 x.kind) ∧
    w.cell? ⟨g, o + i * 11 + 1, none⟩ = some (.bool x.lit.neg) ∧ w.cell? ⟨g, o + i * 11 + 2, none⟩ = some (.string ⟨x.lit.pred.toArray⟩) ∧ w.cell? ⟨g, o + i * 11 + 3, none⟩ = some (.slice ka x.lit.args.length kc) ∧ w.cell? ⟨g, o + i * 11 + 4, none⟩ = some (.bool x.lit.hasValue) ∧ w.cell? ⟨g, o + i * 11 + 5, none⟩ = some (.int .i64 x.lit.value) ∧
    w.cell? ⟨g, o + i * 11 + 6, none⟩ = some (.slice la x.guard.left.length lc) ∧ w.cell? ⟨g, o + i * 11 + 7, none⟩ = some (.int .i64 x.guard.op) ∧ w.cell? ⟨g, o + i * 11 + 8, none⟩ = some (.slice ra x.guard.right.length rc) ∧
    w.cell? ⟨g, o + i * 11 + 9, none⟩ = some (.string ⟨x.a.toArray⟩) ∧ w.cell? ⟨g, o + i * 11 + 10, none⟩ = some (.string ⟨x.b.toArray⟩) ∧
    x.lit.pred.length ≤ maxLen ∧ x.a.length ≤ maxLen ∧ x.b.length ≤ maxLen ∧ Strs N w x.lit.args (.slice ka x.lit.args.length kc) ∧ Terms N w x.guard.left (.slice la x.guard.left.length lc) ∧ Terms N w x.guard.right (.slice ra x.guard.right.length rc) := by
  obtain ⟨g, o, xs, ea, hg, _, hc, ls, gs, rfl, h1, h2, h3, h4⟩ := RR.open h hx
  obtain ⟨av, rfl, h5, h6⟩ := h1
  obtain ⟨lv, rv, rfl, h7, h8⟩ := h2
  obtain ⟨ka, kc, rfl, _⟩ := h6.form
  obtain ⟨la, lc, rfl, _⟩ := h7.form
  obtain ⟨ra, rc, rfl, _⟩ := h8.form
  exact ⟨g, o, ka, kc, la, lc, ra, rc, ea, hg, hc 0 _ rfl, hc 1 _ rfl, hc 2 _ rfl, hc 3 _ rfl, hc 4 _ rfl, hc 5 _ rfl, hc 6 _ rfl, hc 7 _ rfl, hc 8 _ rfl, hc 9 _ rfl, hc 10 _ rfl, h5, h3, h4, h6, h7, h8⟩
theorem run_makeMap0 (w : World) : (Instr.makeMap 67 none).run Tryz.prog w = .ok (.map (some w.heap.size)) (w.alloc (.map #[] 0)) := by
  unfold Instr.makeMap
  simp
theorem bodyM_step {C : Ctx} {l : List PremM} {k : Nat} {x : PremM} {v : Scope} {β : Type} {f : Scope → Er β} {o : Er β} (h : (bodyM C v (l.drop k) >>= f) = o) (hx : l[k]? = some x) : (premM C v x >>= fun v' => bodyM C v' (l.drop (k + 1)) >>= f) = o := by
  rw [drop_c hx] at h
  unfold bodyM at h
  exact bind_assoc3 h
theorem bodyM_end {C : Ctx} {l : List PremM} {k : Nat} {v : Scope} {β : Type} {f : Scope → Er β} {o : Er β} (h : (bodyM C v (l.drop k) >>= f) = o) (hk : l.length ≤ k) : f v = o := by
  rw [List.drop_eq_nil_of_le hk] at h
  exact h
end
/-- How the asking of a rule's parts ends. -/
def Ep (w : World) (it : Int) (o : Er Scope) (e : Ending) (w' : World) : Prop := Below w.heap.size w w' ∧ match o with
  | .ok v' => ∃ Z V M nv kv, e = .returned (ptr V) ∧ Scp Z V M nv kv v' w' ∧ (∀ k, Z k → w.heap.size ≤ k)
  | .error c => e = .panicked [fl c it]
theorem Ep.bad {w w' : World} {it : Int} {o : Er Scope} {c : Int} (h : .error c = o) (hf : Below w.heap.size w w') : Ep w it o (.panicked [fl c it]) w' := by subst h; exact ⟨hf, rfl⟩
theorem Ep.ok {w w' : World} {it : Int} {o : Er Scope} {v' : Scope} {Z : Nat → Prop} {V M : Nat} (h : .ok v' = o) (hf : Below w.heap.size w w') (hs : ∃ nv kv, Scp Z V M nv kv v' w') (hz : ∀ k, Z k → w.heap.size ≤ k) : Ep w it o (.returned (ptr V)) w' := by
  subst h
  obtain ⟨nv, kv, hs⟩ := hs
  exact ⟨hf, Z, V, M, nv, kv, rfl, hs, hz⟩
theorem Ep.no {w w' : World} {it : Int} {o : Er Scope} {e : Ending} (h : Ep w it o e w') : (∃ c, o = .error c ∧ e = .panicked [fl c it] ∧ Below w.heap.size w w') ∨ (∃ v' Z V M nv kv, o = .ok v' ∧ e = .returned (ptr V) ∧ Scp Z V M nv kv v' w' ∧ (∀ k, Z k → w.heap.size ≤ k) ∧ Below w.heap.size w w') := by
  obtain ⟨hf, h⟩ := h
  cases o with
  | ok a => obtain ⟨Z, V, M, nv, kv, h1, h2, h3⟩ := h; exact .inr ⟨a, Z, V, M, nv, kv, rfl, h1, h2, h3, hf⟩
  | error c => exact .inl ⟨c, rfl, h, hf⟩
section
variable {R : Nat} {S : StatM} {st : St9} {mp : Mp8} {it : Nat} {seen : List Bytes} {w : World}
/-- Memory when a rule's parts begin. -/
def startW (R : Nat) (cs : Array Value) (w : World) : World := ((((w.alloc (.cells #[ptr R] 65)).alloc (.cells cs 49)).alloc (.map #[] 0)).alloc (.cells #[.slice none 0 0, .slice none 0 0, .map (some (w.heap.size + 1 + 1))] 181)).alloc (.cells #[.pointer (some ⟨w.heap.size + 1 + 1 + 1, 0, none⟩)] 177)
def startZ (w : World) : Nat → Prop := fun k => k = w.heap.size + 2 ∨ k = w.heap.size + 3 ∨ w.heap.size + 5 ≤ k
theorem start_below (R : Nat) (cs : Array Value) (w : World) : Below w.heap.size w (startW R cs w) := (((((Below.refl _ w).alloc (Nat.le_refl _) _).alloc (by simp) _).alloc (by simp; omega) _).alloc (by simp; omega) _).alloc (by simp; omega) _
theorem start_rx (h : Res R S st mp it seen w) (cs : Array Value) : Rx w R S st mp it seen (startZ w) (w.heap.size + 3) (w.heap.size + 2) w.heap.size (w.heap.size + 4) [] (startW R cs w) := by
  have lt3 := loc_lt h.box
  have hsz : (startW R cs w).heap.size = w.heap.size + 5 := by unfold startW; simp
  have hb := start_below R cs w
  let w1 := w.alloc (.cells #[ptr R] 65)
  let w2 := w1.alloc (.cells cs 49)
  let w3 := w2.alloc (.map #[] 0)
  let w4 := w3.alloc (.cells #[.slice none 0 0, .slice none 0 0, .map (some (w.heap.size + 1 + 1))] 181)
  have e : startW R cs w = w4.alloc (.cells #[.pointer (some ⟨w.heap.size + 1 + 1 + 1, 0, none⟩)] 177) := rfl
  have s1 : w1.heap.size = w.heap.size + 1 := by simp [w1]
  have s2 : w2.heap.size = w.heap.size + 2 := by simp [w2, s1]
  have s3 : w3.heap.size = w.heap.size + 3 := by simp [w3, s2]
  have s4 : w4.heap.size = w.heap.size + 4 := by simp [w4, s3]
  have b0 : (startW R cs w).heap[w.heap.size]? = some (.cells #[ptr R] 65 (0, 0)) := by
    rw [e, Below.heap_alloc w4 _ _ (by omega), Below.heap_alloc w3 _ _ (by omega), Below.heap_alloc w2 _ _ (by omega), Below.heap_alloc w1 _ _ (by omega)]
    exact heap_alloc_new w _
  have b2 : (startW R cs w).heap[w.heap.size + 2]? = w3.heap[w.heap.size + 2]? := by
    rw [e, Below.heap_alloc w4 _ _ (by omega), Below.heap_alloc w3 _ _ (by omega)]
  have b3 : (startW R cs w).heap[w.heap.size + 3]? = some (.cells #[.slice none 0 0, .slice none 0 0, .map (some (w.heap.size + 2))] 181 (0, 0)) := by
    rw [e, Below.heap_alloc w4 _ _ (by omega), ← s3]
    exact heap_alloc_new w3 _
  have b4 : (startW R cs w).heap[w.heap.size + 4]? = some (.cells #[ptr (w.heap.size + 3)] 177 (0, 0)) := by
    rw [e, ← s4]
    exact heap_alloc_new w4 _
  have hm : KMap 9 w3 (w.heap.size + 2) [] := by rw [← s2]; exact KMap.made _ w2
  refine ⟨h, hb, ?_, ⟨.slice none 0 0, .slice none 0 0, b3, ⟨rfl, .inl ⟨rfl, rfl⟩⟩, ⟨rfl, .inl ⟨rfl, rfl⟩⟩, hm.keep b2, .inr (.inl rfl), .inl rfl, ?_, ?_, ?_⟩, ⟨?_, ?_, ?_, ?_, ?_, ?_⟩, ?_⟩
  · rintro k (a | a | a) <;> omega
  · intro g hg; cases hg
  · intro g hg; cases hg
  · intro s hs; cases hs
  · exact cell_of_row _ _ 0 _ _ _ b0
  · exact cell_of_row _ _ 0 _ _ _ b4
  · exact (h.below hb).c9
  · rintro (a | a | a) <;> omega
  · rintro (a | a | a) <;> omega
  · rintro (a | a | a) <;> omega
  · intro g hg; exact .inr (.inr (by omega))
theorem start_box (R : Nat) (cs : Array Value) (w : World) : (startW R cs w).heap[w.heap.size + 1]? = some (.cells cs 49 (0, 0)) := by
  let w1 := w.alloc (.cells #[ptr R] 65)
  let w2 := w1.alloc (.cells cs 49)
  let w3 := w2.alloc (.map #[] 0)
  let w4 := w3.alloc (.cells #[.slice none 0 0, .slice none 0 0, .map (some (w.heap.size + 1 + 1))] 181)
  have e : startW R cs w = w4.alloc (.cells #[.pointer (some ⟨w.heap.size + 1 + 1 + 1, 0, none⟩)] 177) := rfl
  have s1 : w1.heap.size = w.heap.size + 1 := by simp [w1]
  have s2 : w2.heap.size = w.heap.size + 2 := by simp [w2, s1]
  have s3 : w3.heap.size = w.heap.size + 3 := by simp [w3, s2]
  have s4 : w4.heap.size = w.heap.size + 4 := by simp [w4, s3]
  rw [e, Below.heap_alloc w4 _ _ (by omega), Below.heap_alloc w3 _ _ (by omega), Below.heap_alloc w2 _ _ (by omega), ← s1]
  exact heap_alloc_new w1 _
end
end Go.Proofs.YtbdlgglbcaoakaaGreat
