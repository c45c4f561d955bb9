/- The law's small statute. -/
import Derived.Test.YtfnobccminhjpabGreatVars9
namespace Go.Proofs.YtfnobccminhjpabGreat
open Go.RowKit Go.Shelf Go.Maps Go.WideMaps

def bX : Bytes := [88]
def bY : Bytes := [89]
def bOld : Bytes := [111, 108, 100]
def bPerson : Bytes := [112, 101, 114, 115, 111, 110]
def bAnn : Bytes := [97, 110, 110]
def bAct : Bytes := [97, 99, 116]
def litX : LitM := ⟨false, bOld, [bX], false, 0⟩
def prem1 : PremM := ⟨1, litX, ⟨[], 0, []⟩, [], []⟩
def prem2 : PremM := ⟨3, ⟨false, [], [], false, 0⟩, ⟨[], 0, []⟩, bX, bY⟩
def smallM (body : List PremM) : StatM := ⟨[], [bPerson], [(bAnn, bPerson)], [⟨bOld, 1, [bPerson], []⟩], [], [(bAct, 1)], [⟨[114], bAct, 1, 0, body, 1, litX⟩], [], []⟩
theorem small_one : checkM (smallM [prem1]) = (0, 5) := by kernel_rfl
theorem small_vars : varsM (smallM [prem1]) 0 = .ok [(bX, 0)] := by kernel_rfl
theorem small_two : checkM (smallM [prem1, prem2]) = (86, 4) := by kernel_rfl

theorem RR.one {α : Type} {N k : Nat} {c : World → α → List Value → Prop} {w : World} {a : α} {g T cap : Nat} {xs : List Value} (hg : w.heap[g]? = some (.cells xs.toArray T (0, 0))) (hN : g < N) (hk : xs.length = k) (hcap : 1 ≤ cap) (hc : c w a xs) : RR N k c w [a] (.slice (some ⟨g, 0, none⟩) 1 cap) := by
  refine ⟨_, cap, rfl, hcap, by simp, fun i x hi => ?_⟩
  cases i with
  | succ i => simp at hi
  | zero =>
    simp at hi
    subst hi
    refine ⟨g, 0, xs, rfl, hN, hk, fun j u hu => ?_, hc⟩
    have : (0 + 0 * k + j) = j := by simp
    rw [this, cell_of_row w g j _ _ _ hg]
    simpa using hu
theorem RR.none {α : Type} {N k : Nat} {c : World → α → List Value → Prop} {w : World} : RR N k c w [] (.slice .none 0 0) := ⟨_, _, rfl, Nat.le_refl _, Nat.zero_le _, fun i x hi => by simp at hi⟩
theorem heap_at {w : World} {o : Obj} {k : Nat} (h : k = w.heap.size) : (w.alloc o).heap[k]? = some o := by subst h; exact heap_alloc_new w o
/-- One block's slice. -/
abbrev sl (g : Nat) : Value := .slice (some ⟨g, 0, none⟩) 1 1
def litW (n : Nat) : List Value := [.bool false, str bOld, sl (n + 1), .bool false, .int .i64 0]
def premW (n : Nat) : List Value := .int .i64 1 :: litW n ++ [.slice none 0 0, .int .i64 0, .slice none 0 0] ++ [str [], str []]
def ruleW (n : Nat) (bv : Value) : List Value := [str [114], str bAct, .int .i64 1, .int .i64 0, bv, .int .i64 1] ++ litW n
/-- The small statute's blocks, behind n. -/
structure SmH (n : Nat) (bv : Value) (w : World) : Prop where
  b1 : w.heap[n + 1]? = some (.cells [str bX].toArray 9 (0, 0))
  b3 : w.heap[n + 3]? = some (.cells [str bPerson].toArray 9 (0, 0))
  b4 : w.heap[n + 4]? = some (.cells [str bAnn, str bPerson].toArray 119 (0, 0))
  b5 : w.heap[n + 5]? = some (.cells [str bPerson].toArray 9 (0, 0))
  b6 : w.heap[n + 6]? = some (.cells [str bOld, .int .i64 1, sl (n + 5), .slice none 0 0].toArray 115 (0, 0))
  b7 : w.heap[n + 7]? = some (.cells [str bAct, .int .i64 1].toArray 121 (0, 0))
  b9 : w.heap[n + 9]? = some (.cells (ruleW n bv).toArray 86 (0, 0))
structure SmB (n : Nat) (w : World) : Prop where
  b8 : w.heap[n + 8]? = some (.cells (premW n).toArray 93 (0, 0))
def smSt (n : Nat) : St9 := ⟨str [], sl (n + 3), sl (n + 4), sl (n + 6), .slice none 0 0, sl (n + 7), sl (n + 9), .slice none 0 0, .slice none 0 0⟩
theorem SmH.keep {n : Nat} {bv : Value} {w w' : World} (h : SmH n bv w) (hb : ∀ g, g < n + 10 → w'.heap[g]? = w.heap[g]?) : SmH n bv w' :=
  ⟨(hb _ (by omega)).trans h.b1, (hb _ (by omega)).trans h.b3, (hb _ (by omega)).trans h.b4, (hb _ (by omega)).trans h.b5, (hb _ (by omega)).trans h.b6, (hb _ (by omega)).trans h.b7, (hb _ (by omega)).trans h.b9⟩
theorem SmH.lit {n N : Nat} {bv : Value} {w : World} (h : SmH n bv w) (hN : n + 10 ≤ N) : cLit N w litX (litW n) :=
  ⟨sl (n + 1), rfl, by decide, RR.one h.b1 (by omega) rfl (Nat.le_refl _) ⟨rfl, by decide⟩⟩
theorem cGuard_none {N : Nat} {w : World} : cGuard N w ⟨[], 0, []⟩ [.slice none 0 0, .int .i64 0, .slice none 0 0] := ⟨_, _, rfl, RR.none, RR.none⟩
theorem SmH.prem {n N : Nat} {bv : Value} {w : World} (h : SmH n bv w) (hN : n + 10 ≤ N) : cPrem N w prem1 (premW n) :=
  ⟨litW n, _, rfl, h.lit hN, cGuard_none, by decide, by decide⟩
theorem SmH.rep {n N : Nat} {bv : Value} {w : World} {body : List PremM} (h : SmH n bv w) (hN : n + 10 ≤ N) (hb : Prems N w body bv) : SR N w (smallM body) (smSt n) := by
  refine ⟨⟨_, rfl⟩, ?_, ?_, ?_, RR.none, ?_, ?_, RR.none, RR.none⟩
  · exact RR.one h.b3 (by omega) rfl (Nat.le_refl _) ⟨rfl, by decide⟩
  · exact RR.one h.b4 (by omega) rfl (Nat.le_refl _) ⟨rfl, by decide, by decide⟩
  · exact RR.one h.b6 (by omega) rfl (Nat.le_refl _) ⟨_, _, rfl, by decide, RR.one h.b5 (by omega) rfl (Nat.le_refl _) ⟨rfl, by decide⟩, RR.none⟩
  · exact RR.one h.b7 (by omega) rfl (Nat.le_refl _) ⟨rfl, by decide⟩
  · exact RR.one h.b9 (by omega) rfl (Nat.le_refl _) ⟨bv, litW n, rfl, (by decide : [(114 : UInt8)].length ≤ maxLen), (by decide : bAct.length ≤ maxLen), hb, h.lit hN⟩
/-- A row of the call's own may be read. -/
theorem RR.of_owns {α : Type} {N k : Nat} {c : World → α → List Value → Prop} {w : World} {l : List α} {v : Value} {e : TypeId} {xs : List Value} (h : w.ownsRow 0 e k v l.length xs) (hN : w.heap.size ≤ N) (hl : l.length ≤ 140737488351232) (hc : ∀ i x, l[i]? = some x → c w x ((xs.drop (i * k)).take k)) : RR N k c w l v := by
  obtain ⟨h1, h2⟩ := h
  rcases h2 with ⟨rfl, h0⟩ | ⟨g, cap, cur, rfl, _, hg, hcap, _, hcs, htk⟩
  · have : l = [] := List.eq_nil_of_length_eq_zero h0
    subst this
    exact RR.none
  · refine ⟨_, cap, rfl, hcap, hl, fun i x hi => ⟨g, 0, (xs.drop (i * k)).take k, rfl, Nat.lt_of_lt_of_le (loc_lt hg) hN, ?_, ?_, hc i x hi⟩⟩
    · have hil : i < l.length := by
        apply Classical.byContradiction
        intro hn
        rw [List.getElem?_eq_none (by omega)] at hi
        cases hi
      have : (i + 1) * k ≤ l.length * k := Nat.mul_le_mul_right k hil
      rw [Nat.add_mul] at this
      simp [h1]
      omega
    · intro j u hu
      rw [List.getElem?_take] at hu
      split at hu
      · rw [List.getElem?_drop, ← htk, List.getElem?_take] at hu
        split at hu
        · rw [Nat.zero_add, cell_of_row w g _ _ _ _ hg, ← Array.getElem?_toList]
          exact hu
        · cases hu
      · cases hu

set_option maxRecDepth 100000 in
set_option maxHeartbeats 3200000 in
theorem lawSmall_any (w : World) : Calls Tryz.prog 14 #[] w fun e w' => e = .returned (smSt w.heap.size).agg ∧ Below w.heap.size w w' ∧ SmH w.heap.size (sl (w.heap.size + 8)) w' ∧ SmB w.heap.size w' ∧ w'.heap.size = w.heap.size + 10 := by
  go_enter Tryz.func14, Tryz.ntmps14
  go_wp2_with fail
  simp [bodyPost, results, Tryz.results14, go_sem]
  refine ⟨⟨rfl, rfl, rfl, rfl, rfl, rfl, rfl, rfl, rfl⟩, ?_, ?_, ?_⟩
  · exact (((((((((((Below.refl _ w).alloc (Nat.le_refl _) _).alloc (by simp) _).alloc (by simp; omega) _).alloc (by simp; omega) _).alloc (by simp; omega) _).alloc (by simp; omega) _).alloc (by simp; omega) _).alloc (by simp; omega) _).alloc (by simp; omega) _).alloc (by simp; omega) _)
  · refine ⟨?_, ?_, ?_, ?_, ?_, ?_, ?_⟩
    · rw [Below.heap_alloc _ _ _ (by simp <;> omega)]; rw [Below.heap_alloc _ _ _ (by simp <;> omega)]; rw [Below.heap_alloc _ _ _ (by simp <;> omega)]; rw [Below.heap_alloc _ _ _ (by simp <;> omega)]; rw [Below.heap_alloc _ _ _ (by simp <;> omega)]; rw [Below.heap_alloc _ _ _ (by simp <;> omega)]; rw [Below.heap_alloc _ _ _ (by simp <;> omega)]; rw [Below.heap_alloc _ _ _ (by simp <;> omega)]; exact heap_at (by simp <;> omega)
    · rw [Below.heap_alloc _ _ _ (by simp <;> omega)]; rw [Below.heap_alloc _ _ _ (by simp <;> omega)]; rw [Below.heap_alloc _ _ _ (by simp <;> omega)]; rw [Below.heap_alloc _ _ _ (by simp <;> omega)]; rw [Below.heap_alloc _ _ _ (by simp <;> omega)]; rw [Below.heap_alloc _ _ _ (by simp <;> omega)]; exact heap_at (by simp <;> omega)
    · rw [Below.heap_alloc _ _ _ (by simp <;> omega)]; rw [Below.heap_alloc _ _ _ (by simp <;> omega)]; rw [Below.heap_alloc _ _ _ (by simp <;> omega)]; rw [Below.heap_alloc _ _ _ (by simp <;> omega)]; rw [Below.heap_alloc _ _ _ (by simp <;> omega)]; exact heap_at (by simp <;> omega)
    · rw [Below.heap_alloc _ _ _ (by simp <;> omega)]; rw [Below.heap_alloc _ _ _ (by simp <;> omega)]; rw [Below.heap_alloc _ _ _ (by simp <;> omega)]; rw [Below.heap_alloc _ _ _ (by simp <;> omega)]; exact heap_at (by simp <;> omega)
    · rw [Below.heap_alloc _ _ _ (by simp <;> omega)]; rw [Below.heap_alloc _ _ _ (by simp <;> omega)]; rw [Below.heap_alloc _ _ _ (by simp <;> omega)]; exact heap_at (by simp <;> omega)
    · rw [Below.heap_alloc _ _ _ (by simp <;> omega)]; rw [Below.heap_alloc _ _ _ (by simp <;> omega)]; exact heap_at (by simp <;> omega)
    · exact heap_at (by simp <;> omega)
  · constructor; rw [Below.heap_alloc _ _ _ (by simp <;> omega)]; exact heap_at (by simp <;> omega)
end Go.Proofs.YtfnobccminhjpabGreat
