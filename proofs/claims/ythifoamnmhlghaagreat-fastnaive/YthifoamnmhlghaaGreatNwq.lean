/- newWaits: its making region, plain. (tools/gen16/nwt.py wrote this.) -/
import Derived.Test.YthifoamnmhlghaaGreatNwp
namespace Go.Proofs.YthifoamnmhlghaaGreat.Fa
open Go.RowKit Rg

def prW (R : Nat) (ra : Option Addr) (rc : Nat) (T : Th) (bq n N : Nat) (i : Nat) (v : Value) (W : World) (lo hi : Nat) : Prop := match i with
  | 0 | 11 => v = ptr bq
  | 1 | 12 => v = .int .i64 T.lits
  | 3 | 7 => v = .pointer (some ⟨bq, 2, none⟩)
  | 4 | 8 => v = .slice ra R rc
  | 5 | 9 => v = .int .i64 R
  | 2 => ∃ g, v = sl g n ∧ Fx g 26 (List.replicate n (.slice none 0 0)) W ∧ lo ≤ g ∧ g < hi ∧ N ≤ g
  | 6 => ∃ g, v = sl g R ∧ Fx g 3 (rowI R fun _ => 0) W ∧ lo ≤ g ∧ g < hi ∧ N ≤ g
  | 10 => ∃ g, v = sl g R ∧ Fx g 4 (rowB R fun _ => false) W ∧ lo ≤ g ∧ g < hi ∧ N ≤ g
  | 13 => ∃ g, v = sl g n ∧ Fx g 3 (rowI n fun _ => 0) W ∧ lo ≤ g ∧ g < hi ∧ N ≤ g
  | 14 => ∃ g0 g1 g2 g3, v = .agg #[sl g0 n, sl g1 R, sl g2 R, sl g3 n] ∧ Fx g0 26 (List.replicate n (.slice none 0 0)) W ∧ Fx g1 3 (rowI R fun _ => 0) W ∧ Fx g2 4 (rowB R fun _ => false) W ∧ Fx g3 3 (rowI n fun _ => 0) W ∧ (N ≤ g0 ∧ N ≤ g1 ∧ N ≤ g2 ∧ N ≤ g3) ∧ g1 ≠ g3
  | 15 => ∃ g xs, v = ptr g ∧ Fx g 48 xs W ∧ xs.length = 4 ∧ N ≤ g
  | _ => True
theorem prW_go {R : Nat} {ra : Option Addr} {rc : Nat} {T : Th} {bq n N : Nat} : ∀ i v W W' lo hi, prW R ra rc T bq n N i v W lo hi → hi ≤ W.heap.size → Below W.heap.size W W' → prW R ra rc T bq n N i v W' lo hi := by
  intro i v W W' lo hi h hh hb
  have k : ∀ {g t : Nat} {xs : List Value}, Fx g t xs W → Fx g t xs W' := fun hf => hf.keep (hb.block _ hf.lt)
  unfold prW at *
  split at h
  all_goals first
    | exact h
    | (obtain ⟨g, a, b, c⟩ := h; exact ⟨g, a, k b, c⟩)
    | (obtain ⟨g0, g1, g2, g3, a, b, c, d, e, f⟩ := h; exact ⟨g0, g1, g2, g3, a, k b, k c, k d, k e, f⟩)
    | (obtain ⟨g, xs, a, b, c⟩ := h; exact ⟨g, xs, a, k b, c⟩)
    | trivial
def finW (R n : Nat) (W0 : World) (σ : Nat → Value) (W : World) : Prop := ∃ q us ms rr op, σ 7 = ptr q ∧ Nw W0.heap.size q us ms rr op n R (fun _ => 0) (fun _ => 0) (fun _ => List.replicate n []) (fun _ => List.replicate n (.slice none 0 0)) W ∧ Below W0.heap.size W0 W
theorem res_wt {tmps : Array Value} {b : Nat} {Y : World} {t0 t1 t2 t3 : Value} (ht : tmps.getD 6 undef = .pointer (some ⟨b, 0, none⟩)) (h : Fx b 48 [t0, t1, t2, t3] Y) : (results Tryz.f28 tmps).run Tryz.prog Y = .ok (.agg #[t0, t1, t2, t3]) Y := by
  have r0 := h.get (i := 0) rfl
  have r1 := h.get (i := 1) rfl
  have r2 := h.get (i := 2) rfl
  have r3 := h.get (i := 3) rfl
  have ht2 : tmps[6]?.getD undef = .pointer (some ⟨b, 0, none⟩) := by simpa [Array.getD_eq_getD_getElem?] using ht
  clear h ht
  simp [results, Tryz.results28, go_sem, ht2, r0, r1, r2, r3]
set_option maxRecDepth 100000 in
set_option maxHeartbeats 3200000 in
theorem isAny_any {w : World} {k h : Int} {v : Value} : Calls Tryz.prog 30 #[.agg #[.int .i64 k, .int .i64 h, v]] w fun o w' => o = .returned (.bool true) ∧ Below w.heap.size w w' := by
  have HB := hide (below_new w (.cells #[.int .i64 k, .int .i64 h, v] 36))
  go_enter Tryz.func30, Tryz.ntmps30
  go_wp2_with fail
  go_ret
  exact ⟨rfl, HB.out⟩
end Go.Proofs.YthifoamnmhlghaaGreat.Fa
