/- FastChain, walked. -/
import Derived.Test.YthifoamnmhlghaaLinW
import Derived.Test.YthifoamnmhlghaaChM
import Derived.Deep.RegionLaw
import Derived.Deep.CutRange
import Derived.Deep.AppendLies
namespace Go.Proofs.Ythifoamnmhlghaa.Fa
open Go.RowKit

def upN {α : Type} (f : Nat → α) (c : Nat) (y : α) : Nat → α := fun d => if d = c then y else f d
theorem upN_at {α : Type} {f : Nat → α} {c : Nat} {y : α} : upN f c y c = y := if_pos rfl
theorem upN_off {α : Type} {f : Nat → α} {c d : Nat} {y : α} (h : d ≠ c) : upN f c y d = f d := if_neg h
def rcell (κ b : Nat → Nat) (i : Nat) : List Value := [.int .i64 2, .int .i64 ((κ i + 1 : Nat) : Int), .slice (some ⟨b i, 0, none⟩) 1 1]
def rcells (κ b : Nat → Nat) : Nat → List Value
  | 0 => []
  | k + 1 => rcells κ b k ++ rcell κ b k
theorem rcells_len {κ b : Nat → Nat} : ∀ {k : Nat}, (rcells κ b k).length = k * 3
  | 0 => rfl
  | k + 1 => by rw [rcells, List.length_append, rcells_len]; simp [rcell]; omega
theorem rcells_up {κ b : Nat → Nat} {c v : Nat} : ∀ {k : Nat}, k ≤ c → rcells κ (upN b c v) k = rcells κ b k
  | 0, _ => rfl
  | k + 1, h => by
    rw [rcells, rcells, rcells_up (by omega)]
    unfold rcell
    rw [upN_off (by omega)]
theorem rcells_at {κ b : Nat → Nat} {i : Nat} : ∀ {k : Nat}, i < k → ∀ j u, (rcell κ b i)[j]? = some u → (rcells κ b k)[i * 3 + j]? = some u
  | 0, h, _, _, _ => by omega
  | k + 1, h, j, u, hu => by
    have hj : j < 3 := (List.getElem?_eq_some_iff.1 hu).1
    rw [rcells]
    by_cases e : i = k
    · subst e
      rw [List.getElem?_append_right (by rw [rcells_len]; omega), rcells_len, show i * 3 + j - i * 3 = j by omega]
      exact hu
    · rw [List.getElem?_append_left (by rw [rcells_len]; omega)]
      exact rcells_at (by omega) j u hu
/-- The rules so far. -/
structure Rl (base k : Nat) (κ b : Nat → Nat) (rv : Value) (w : World) : Prop where
  own : w.ownsRow base 42 3 rv k (rcells κ b k)
  bod : ∀ i, i < k → Fx (b i) 3 (ints [((κ i : Nat) : Int)]) w
theorem Rl.rules {base k : Nat} {κ b : Nat → Nat} {a : Option Addr} {c : Nat} {w : World} (h : Rl base k κ b (.slice a k c) w) (hk : k ≤ 400) : Rules w.heap.size w (chR κ k) (.slice a (chR κ k).length c) := by
  rw [chR_len]
  refine ⟨a, c, by rw [chR_len], ?_, by rw [chR_len]; omega, fun i x hi => ?_⟩
  · rw [chR_len]
    rcases h.own.2 with ⟨e0, e⟩ | ⟨g, cap, cur, e, _, _, hle, _⟩
    · omega
    · cases e; exact hle
  · have hik : i < k := by have := (List.getElem?_eq_some_iff.1 hi).1; rw [chR_len] at this; exact this
    rw [chR_at hik] at hi
    cases hi
    rcases h.own.2 with ⟨e0, e⟩ | ⟨g, cap, cur, e, _, hg, hle, _⟩
    · omega
    · cases e
      refine ⟨g, 0, rcell κ b i, rfl, loc_lt hg, rfl, fun j u hu => ?_, _, rfl, Ints.blk (l := [((κ i : Nat) : Int)]) (h.bod i hik) (h.bod i hik).lt (by simp)⟩
      have := h.own.cells (g := g) rfl (i * 3 + j) u (rcells_at hik j u hu)
      rw [Addr.add_lit] at this
      rw [Nat.zero_add] at this ⊢
      exact this
/-- The law's theory in its box. -/
structure Rb (base n k : Nat) (tb f bb : Nat) (κ b : Nat → Nat) (ra : Option Addr) (rc : Nat) (w : World) : Prop where
  bx : Fx tb 25 [.int .i64 n, .slice (some ⟨f, 0, none⟩) n n, .slice ra k rc, .slice (some ⟨bb, 0, none⟩) (n - 1 : Nat) (n - 1 : Nat)] w
  ff : Fx f 26 (List.replicate n (.slice none 0 0)) w
  fb : Fx bb 26 (List.replicate (n - 1) (.slice none 0 0)) w
  rl : Rl base k κ b (.slice ra k rc) w
  lo : base ≤ tb
theorem mod_pos {z : Int} : -300 < z.tmod 300 ∧ z.tmod 300 < 300 := by
  have h1 := Int.tmod_lt_of_pos z (show (0 : Int) < 300 by decide)
  have h2 := Int.tmod_lt_of_pos (-z) (show (0 : Int) < 300 by decide)
  rw [Int.neg_tmod] at h2
  omega
theorem Rb.start {base n tb f bb : Nat} {κ : Nat → Nat} {w : World} (h1 : w.heap[tb]? = some (.cells #[.int .i64 n, .slice (some ⟨f, 0, none⟩) n n, .slice none 0 0, .slice (some ⟨bb, 0, none⟩) (n - 1 : Nat) (n - 1 : Nat)] 25 (0, 0))) (h2 : w.heap[f]? = some (.cells (Array.replicate n (.slice none 0 0)) 26 (0, 0))) (h3 : w.heap[bb]? = some (.cells (Array.replicate (n - 1) (.slice none 0 0)) 26 (0, 0))) (hl : base ≤ tb) : Rb base n 0 tb f bb κ (fun _ => 0) none 0 w := by
  refine ⟨h1, by unfold Fx; rw [h2]; simp, by unfold Fx; rw [h3]; simp, ⟨World.ownsRow_nil _ _ _ _, fun i hi => by omega⟩, hl⟩
theorem own_ne3 {w : World} {b e k q e2 : Nat} {v : Value} {n : Nat} {xs vs : List Value} (h : w.ownsRow b e k v n xs) (hq : Fx q e2 vs w) (hne : e ≠ e2) : v.ownBlock ≠ some q := by
  intro hg
  rcases h.2 with ⟨h1, _⟩ | ⟨g', _, cur, h1, _, h3, _⟩
  · rw [h1] at hg; cases hg
  · rw [h1] at hg; cases hg; unfold Fx at hq; rw [hq] at h3; cases h3; exact hne rfl
theorem Rb.add {base n k tb f bb gg cap rc : Nat} {κ b : Nat → Nat} {ra : Option Addr} {wr X w5 : World} (h : Rb base n k tb f bb κ b ra rc wr) (hA : Below wr.heap.size wr X) (hnw : Fx wr.heap.size 3 (ints [((κ k : Nat) : Int)]) X) (hold : ∀ g, g < X.heap.size → Value.ownBlock (.slice ra k rc) ≠ some g → w5.heap[g]? = X.heap[g]?)
    (hown : w5.ownsRow base 42 3 (.slice (some ⟨gg, 0, none⟩) (k + 1) cap) (k + 1) (rcells κ b k ++ [.int .i64 2, .int .i64 ((κ k + 1 : Nat) : Int), .slice (some ⟨wr.heap.size, 0, none⟩) 1 1])) :
    Rb base n (k + 1) tb f bb κ (upN b k wr.heap.size) (some ⟨gg, 0, none⟩) cap (w5.setCell ⟨tb, 2, none⟩ (.slice (some ⟨gg, 0, none⟩) (k + 1) cap)) := by
  have old : ∀ {g e : Nat} {vs : List Value}, Fx g e vs wr → 42 ≠ e → Fx g e vs w5 := fun {g e vs} hg hne => hg.keep ((hold g (Nat.lt_of_lt_of_le hg.lt hA.size) (own_ne3 h.rl.own hg hne)).trans (hA.block g hg.lt))
  have hb5 := old h.bx (by decide)
  have hf5 := old h.ff (by decide)
  have hB5 := old h.fb (by decide)
  refine ⟨hb5.set 2 _, hf5.keep (other_set (fx_ne hf5 hb5 (by decide))), hB5.keep (other_set (fx_ne hB5 hb5 (by decide))), ⟨?_, fun i hi => ?_⟩, h.lo⟩
  · have e : rcells κ (upN b k wr.heap.size) (k + 1) = rcells κ b k ++ [.int .i64 2, .int .i64 ((κ k + 1 : Nat) : Int), .slice (some ⟨wr.heap.size, 0, none⟩) 1 1] := by
      rw [rcells, rcells_up (Nat.le_refl _)]
      unfold rcell
      rw [upN_at]
    rw [e]
    exact owns_keep hown fun g hg => other_set fun e2 => own_ne3 hown hb5 (by decide) (e2 ▸ hg)
  · by_cases e : i = k
    · subst e
      rw [upN_at]
      have h1 := hnw.keep (hold _ hnw.lt fun e => by have := owns_lt h.rl.own e; omega)
      exact h1.keep (other_set (fx_ne h1 hb5 (by decide)))
    · rw [upN_off e]
      have h1 := old (h.rl.bod i (by omega)) (by decide)
      exact h1.keep (other_set (fx_ne h1 hb5 (by decide)))
theorem Rb.lists {n g : Nat} {w : World} (h : Fx g 26 (List.replicate n (.slice none 0 0)) w) (hn : n ≤ 400) : Lists w.heap.size w (List.replicate n []) (.slice (some ⟨g, 0, none⟩) n n) := by
  have := Lists.blk (l := List.replicate n ([] : List Int)) h h.lt (by simp; omega) fun i x hi => by
    rw [List.getElem?_replicate] at hi
    split at hi
    · rename_i hin
      cases hi
      exact ⟨.slice none 0 0, by rw [List.getElem?_replicate, if_pos hin], RR.none⟩
    · cases hi
  rw [List.length_replicate] at this
  exact this
theorem Rb.ta {base n tb f bb rc : Nat} {κ b : Nat → Nat} {ra : Option Addr} {w w' : World} (h : Rb base n (n - 1) tb f bb κ b ra rc w) (hn : n ≤ 400) (hb : Below w.heap.size w w') : TA w'.heap.size w' (chT n κ) (some ⟨f, 0, none⟩) n ra rc (some ⟨bb, 0, none⟩) (n - 1) := by
  refine TR.go hb ⟨?_, ?_, ?_⟩
  · show Lists _ _ (List.replicate n []) (.slice _ (List.replicate n ([] : List Int)).length n)
    rw [List.length_replicate]
    exact Rb.lists h.ff hn
  · exact h.rl.rules (by omega)
  · show Lists _ _ (List.replicate (n - 1) []) (.slice _ (List.replicate (n - 1) ([] : List Int)).length (n - 1))
    rw [List.length_replicate]
    exact Rb.lists h.fb (by omega)
theorem alloc3 (W : World) (o1 o2 o3 : Obj) : Below W.heap.size W (((W.alloc o1).alloc o2).alloc o3).drew ∧ (((W.alloc o1).alloc o2).alloc o3).drew.heap[W.heap.size]? = some o1 ∧ (((W.alloc o1).alloc o2).alloc o3).drew.heap[W.heap.size + 1]? = some o2 ∧ (((W.alloc o1).alloc o2).alloc o3).drew.heap[W.heap.size + 1 + 1]? = some o3 := by
  obtain ⟨h1, _, h3⟩ := allocs_facts [o1, o2, o3] W
  exact ⟨⟨h1.os, h1.tape, h1.output, h1.size, h1.block⟩, h3 0 _ rfl, h3 1 _ rfl, h3 2 _ rfl⟩
/-- Which way round. -/
def kap (bk : Bool) (n i : Nat) : Nat := if bk then n - 2 - i else i
theorem kap_in {bk : Bool} {n i : Nat} (h : i < n - 1) : kap bk n i < n - 1 := by unfold kap; split <;> omega
theorem kap_sur {bk : Bool} {n q : Nat} (h : q < n - 1) : ∃ i, i < n - 1 ∧ kap bk n i = q := by
  cases bk with
  | false => exact ⟨q, h, rfl⟩
  | true => exact ⟨n - 2 - q, by omega, by unfold kap; rw [if_pos rfl]; omega⟩
theorem chain_call {base N tb f bb rc ec : Nat} {bk : Bool} {b : Nat → Nat} {ra ea : Option Addr} {wr X : World} {F : List Int} (hN1 : 2 ≤ N) (hN2 : N ≤ 301) (hR : Rb base N (N - 1) tb f bb (kap bk N) b ra rc wr) (hb : Below wr.heap.size wr X) (hF : Ints X.heap.size X F (.slice ea F.length ec)) (hFF : F = [] ∨ F = [0]) :
    Calls Try.prog 10 #[.agg #[.int .i64 N, .slice (some ⟨f, 0, none⟩) N N, .slice ra (N - 1) rc, .slice (some ⟨bb, 0, none⟩) (N - 1) (N - 1)], .slice ea F.length ec] X fun o w' => ∃ va vc u m, o = .returned (.tuple #[.slice va N vc, .agg #[.int .i64 (2 * (N : Int)), .int .i64 u], .int .i64 0]) ∧ (0 ≤ u ∧ u ≤ 4 * ((N : Int) + (N : Int) - 1)) ∧ Hid (m.length = N ∧ ∀ q, q < N → m.getD q 0 = chV F q) ∧ Hid (w'.ownsRow X.heap.size 32 1 (.slice va N vc) N (u8s m)) ∧ Hid (Below X.heap.size X w') := by
  have hri : risesM F (N : Int) = true := by
    rcases hFF with rfl | rfl
    · rfl
    · unfold risesM risesF risesF
      have : ¬ ((0 : Int) ≤ -1 ∨ (N : Int) ≤ 0) := by omega
      simp
      omega
  have hok : faultM (chT N (kap bk N)) F = 0 := ch_ok hN1 (by omega) (fun i hi => kap_in hi) hri
  have hp : Pf (chT N (kap bk N)) F N := pf_of hok
  have key := Counted_ok (P := Lin (chT N (kap bk N)) F N) (hR.ta (by omega) hb) hF hok lin_start fun e hl ht hlt => lin_step hp hl ht hlt
  rw [show tv (chT N (kap bk N)) (some ⟨f, 0, none⟩) N ra rc (some ⟨bb, 0, none⟩) (N - 1) = .agg #[.int .i64 N, .slice (some ⟨f, 0, none⟩) N N, .slice ra (N - 1) rc, .slice (some ⟨bb, 0, none⟩) (N - 1) (N - 1)] from by
    show Value.agg #[.int .i64 N, .slice (some ⟨f, 0, none⟩) (List.replicate N ([] : List Int)).length N, .slice ra (chR (kap bk N) (N - 1)).length rc, .slice (some ⟨bb, 0, none⟩) (List.replicate (N - 1) ([] : List Int)).length (N - 1)] = _
    rw [List.length_replicate, List.length_replicate, chR_len]] at key
  refine key.mono ?_
  rintro o w' ⟨v, m, i, e, h1, h2, h3, h4, h5, h6, h7⟩
  have h3 : w'.ownsRow X.heap.size 32 1 v N (u8s m) := h3
  obtain ⟨va, vc, rfl⟩ := owns_slice h3
  have hl := lin_end hp h2 h4.1 h4.2 h5 h6
  rw [ch_cnt hp h2 (fun q hq => kap_sur hq) hFF N (Nat.le_refl _), ch_pre, ch_pairs] at hl
  rw [hl.1, show ((2 * N : Nat) : Int) = 2 * (N : Int) from by push_cast; rfl] at h1
  exact ⟨va, vc, e.up, m, h1, ⟨hl.2.1, by have := hl.2.2; omega⟩, hide ⟨sol_len hp h2, fun q hq => (ch_vals hp h2 (fun q hq => kap_sur hq) hFF hq).1⟩, hide h3, hide h7⟩
set_option maxRecDepth 100000 in
set_option maxHeartbeats 12800000 in
theorem chain_any {w : World} {z : Int} {fc bk : Bool} : Calls Try.prog 5 #[.int .i64 z, .bool fc, .bool bk] w fun e w' => e = .returned (.bool true) ∧ Below w.heap.size w w' := by
  obtain ⟨iL, hiL, zL0, zL1, zL2⟩ := info_parts infoL
  obtain ⟨iR, hiR, zR0, zR1, zR2⟩ := info_parts infoR
  have CA := hide (works_any (w := w))
  obtain ⟨r, hr⟩ : ∃ r, z.tmod 300 = r := ⟨_, rfl⟩
  have hr1 : -300 < r := by rw [← hr]; exact mod_pos.1
  have hr2 : r < 300 := by rw [← hr]; exact mod_pos.2
  obtain ⟨r2, hr3⟩ : ∃ r2, (r + 300).tmod 300 = r2 := ⟨_, rfl⟩
  have hr4 : 0 ≤ r2 := by rw [← hr3]; exact Int.tmod_nonneg _ (by omega)
  have hr5 : r2 < 300 := by rw [← hr3]; exact mod_pos.2
  go_enter Try.func5, Try.ntmps5
  go_upto_region 3 with (go_at_call 8; refine CA.out.mono ?_; rintro _ w1 ⟨rfl, hw1⟩; have HW1 := hide hw1; clear hw1)
  clear CA
  go_upto_region 4 with fail
  obtain ⟨N, hN⟩ : ∃ N : Nat, 2 + r2 = (N : Int) := ⟨(2 + r2).toNat, by omega⟩
  obtain ⟨M, hM⟩ : ∃ M : Nat, N - 1 = M := ⟨_, rfl⟩
  have hN1 : 2 ≤ N := by omega
  have hN2 : N ≤ 301 := by omega
  have hMI : (N : Int) - 1 = (M : Int) := by omega
  rw [hN]
  have HMN := hide hM
  have hm4 := fun W => run_make_fix (P := Try.prog) Try.underlying22 hiL zL0 zL1 rfl N (by rw [zL2]; omega) (by unfold maxLen; omega) W
  have hm5 := fun W => run_make_fix (P := Try.prog) Try.underlying22 hiL zL0 zL1 rfl M (by rw [zL2]; omega) (by unfold maxLen; omega) W
  clear hN hr hr1 hr2 hr3 hr4 hr5
  go_cut [7] from 23 to 29 (fun s wc => ∃ tb f bb, s = ptr tb ∧ Hid (Rb w1.heap.size N 0 tb f bb (kap bk N) (fun _ => 0) none 0 wc) ∧ Hid (Below w1.heap.size w1 wc))
  case first =>
    go_region
    all_goals (go_wp2_with fail; go_meet)
    all_goals (subst hM)
    all_goals first | exact ⟨_, _, _, rfl, hide (Rb.start (alloc3 w1 _ _ _).2.1 (alloc3 w1 _ _ _).2.2.1 (alloc3 w1 _ _ _).2.2.2 (by omega)), hide (alloc3 w1 _ _ _).1⟩ | exact ⟨_, _, _, rfl, hide (Rb.start (alloc3 w1 _ _ _).2.1 (alloc3 w1 _ _ _).2.2.2 (alloc3 w1 _ _ _).2.2.1 (by omega)), hide (alloc3 w1 _ _ _).1⟩ | exact ⟨_, _, _, rfl, hide (Rb.start (alloc3 w1 _ _ _).2.2.1 (alloc3 w1 _ _ _).2.1 (alloc3 w1 _ _ _).2.2.2 (by omega)), hide (alloc3 w1 _ _ _).1⟩ | exact ⟨_, _, _, rfl, hide (Rb.start (alloc3 w1 _ _ _).2.2.1 (alloc3 w1 _ _ _).2.2.2 (alloc3 w1 _ _ _).2.1 (by omega)), hide (alloc3 w1 _ _ _).1⟩ | exact ⟨_, _, _, rfl, hide (Rb.start (alloc3 w1 _ _ _).2.2.2 (alloc3 w1 _ _ _).2.1 (alloc3 w1 _ _ _).2.2.1 (by omega)), hide (alloc3 w1 _ _ _).1⟩ | exact ⟨_, _, _, rfl, hide (Rb.start (alloc3 w1 _ _ _).2.2.2 (alloc3 w1 _ _ _).2.2.1 (alloc3 w1 _ _ _).2.1 (by omega)), hide (alloc3 w1 _ _ _).1⟩
  case rest =>
    obtain ⟨tb, f, bb, rfl, HR, HBc⟩ := hcut
    clear hm4 hm5
    go_upto_region 6 with fail
    go_loopw [8] (fun x wr => ∃ (k : Nat) (b : Nat → Nat) (ra : Option Addr) (rc : Nat), k ≤ M ∧ x = .int .i64 k ∧ Hid (Rb w1.heap.size N k tb f bb (kap bk N) b ra rc wr) ∧ Hid (Below w1.heap.size w1 wr)) (fun x _ => M - (intOf x).toNat)
    case atStart => exact ⟨0, _, _, _, by omega, rfl, HR, HBc⟩
    case round =>
      clear HR HBc
      obtain ⟨k, b, ra, rc, hk, rfl, HR, HBr⟩ := hrel
      by_cases hlt : k < M
      · obtain ⟨kk, hkk⟩ : ∃ kk, kap bk N k = kk := ⟨_, rfl⟩
        have HKK := hide hkk
        have hkb : kk < 400 := by have := kap_in (bk := bk) (n := N) (i := k) (by omega); omega
        have hsub : bk = true → (N : Int) - 2 - (k : Int) = (kk : Int) := fun e => by subst e; unfold kap at hkk; rw [if_pos rfl] at hkk; omega
        have hsame : bk = false → k = kk := fun e => by subst e; exact hkk
        have c2 := HR.out.bx.get (i := 2) rfl
        have hA1 := below_new wr (.cells #[.int .i64 kk] 3)
        have hA2 := below_new (wr.alloc (.cells #[.int .i64 kk] 3)) (.cells #[.int .i64 2, .int .i64 ((kk : Int) + 1), .slice (some ⟨wr.heap.size, 0, none⟩) 1 1] 42)
        have hA := hA1.trans (hA2.mono hA1.size)
        have c2a := cell_onS c2 hA1
        have c2b := cell_onS c2 hA
        have HA := hide hA
        have HSA : Hid (((wr.alloc (.cells #[.int .i64 kk] 3)).alloc (.cells #[.int .i64 2, .int .i64 ((kk : Int) + 1), .slice (some ⟨wr.heap.size, 0, none⟩) 1 1] 42)).heap.size = wr.heap.size + 2) := hide (by simp)
        have HNW : Hid (Fx wr.heap.size 3 (ints [(kk : Int)]) ((wr.alloc (.cells #[.int .i64 kk] 3)).alloc (.cells #[.int .i64 2, .int .i64 ((kk : Int) + 1), .slice (some ⟨wr.heap.size, 0, none⟩) 1 1] 42))) := hide ((hA2.block _ (by simp)).trans (heap_alloc_new wr _))
        have HOM : Hid (((wr.alloc (.cells #[.int .i64 kk] 3)).alloc (.cells #[.int .i64 2, .int .i64 ((kk : Int) + 1), .slice (some ⟨wr.heap.size, 0, none⟩) 1 1] 42)).ownsRow w1.heap.size 42 3 (.slice ra k rc) k (rcells (kap bk N) b k)) := hide (owns_keep HR.out.rl.own fun g e => hA.block g (owns_lt HR.out.rl.own e))
        have HNA : Hid (∀ j u, [.int .i64 2, .int .i64 ((kk : Int) + 1), .slice (some ⟨wr.heap.size, 0, none⟩) 1 1][j]? = some u → ((wr.alloc (.cells #[.int .i64 kk] 3)).alloc (.cells #[.int .i64 2, .int .i64 ((kk : Int) + 1), .slice (some ⟨wr.heap.size, 0, none⟩) 1 1] 42)).cell? ((⟨wr.heap.size + 1, 0, none⟩ : Addr).add j) = some u) := hide (by
          have := World.news_of_block (cs := [.int .i64 2, .int .i64 ((kk : Int) + 1), .slice (some ⟨wr.heap.size, 0, none⟩) 1 1].toArray) (t := 42) (fr := (0, 0)) (heap_alloc_new (wr.alloc (.cells #[.int .i64 kk] 3)) (.cells #[.int .i64 2, .int .i64 ((kk : Int) + 1), .slice (some ⟨wr.heap.size, 0, none⟩) 1 1] 42))
          have hs : (wr.alloc (.cells #[.int .i64 kk] 3)).heap.size = wr.heap.size + 1 := by simp
          rw [hs] at this
          exact this)
        have hbs : w1.heap.size ≤ wr.heap.size := HBr.out.size
        have HNT := hide (own_ne3 HR.out.rl.own HR.out.bx (by decide))
        clear hA1 hA2 hA
        have hl2 : (k : Int) + 1 < (N : Int) := by omega
        generalize hKX : kap bk N = κ at *
        cases bk with
        | false =>
          obtain rfl := hsame rfl
          clear hsub
          go_upto_region 7 with (at_builtin; go_must (refine wpList_append_two _ rfl _ _ 23 rfl w1.heap.size 42 iR _ 3 40 Try.underlying23 hiR zR0 zR1 zR2 rfl (by decide) (.slice ra k rc) k (rcells κ b k) rfl HOM.out ⟨wr.heap.size + 1, 0, none⟩ 1 [.int .i64 2, .int .i64 ((k : Int) + 1), .slice (some ⟨wr.heap.size, 0, none⟩) 1 1] rfl rfl HNA.out (by intro u hu; simp at hu; rcases hu with rfl | rfl | rfl <;> rfl) (by unfold maxLen; omega) (by omega) (by rw [HSA.out]; omega) ?_); intro gg cap w5 hown hg; have hold : ∀ g, g < ((wr.alloc (.cells #[.int .i64 k] 3)).alloc (.cells #[.int .i64 2, .int .i64 ((k : Int) + 1), .slice (some ⟨wr.heap.size, 0, none⟩) 1 1] 42)).heap.size → Value.ownBlock (.slice ra k rc) ≠ some g → w5.heap[g]? = ((wr.alloc (.cells #[.int .i64 k] 3)).alloc (.cells #[.int .i64 2, .int .i64 ((k : Int) + 1), .slice (some ⟨wr.heap.size, 0, none⟩) 1 1] 42)).heap[g]? := (fun g hg1 hn => by rcases hg with ⟨e1, e2⟩ | ⟨e1, e2⟩; exact e2.block g hg1 (fun e => hn (by rw [e1]; exact e.symm)); exact e2.block g hg1 (by intro e; cases e)); have hbe : Below w1.heap.size ((wr.alloc (.cells #[.int .i64 k] 3)).alloc (.cells #[.int .i64 2, .int .i64 ((k : Int) + 1), .slice (some ⟨wr.heap.size, 0, none⟩) 1 1] 42)) w5 := (by rcases hg with ⟨e1, e2⟩ | ⟨e1, e2⟩ <;> exact ⟨e2.os, e2.tape, e2.output, e2.size, fun g hg1 => hold g (by rw [HSA.out]; omega) fun e => by have := (HR.out.rl.own.lt g e).1; omega⟩); have f5 := HR.out.bx.keep ((hold tb (by rw [HSA.out]; have := HR.out.bx.lt; omega) HNT.out).trans (HA.out.block tb HR.out.bx.lt)); have q1 := f5.get (i := 2) rfl; have q2 := f5.frz 2; have HR2 := hide (HR.out.add HA.out (by rw [HKK.out]; exact HNW.out) hold (by rw [HKK.out]; exact hown)); have HB2 := hide ((HBr.out.trans ((HA.out.mono hbs).trans hbe)).setCell (p := ⟨tb, 2, none⟩) HR.out.lo (.slice (some ⟨gg, 0, none⟩) (k + 1) cap)); clear hown hg hold hbe f5)
          clear q1 q2 c2 c2a c2b HR HBr HA HSA HNW HOM HNA HNT HKK
          generalize w5.setCell ⟨tb, 2, none⟩ (.slice (some ⟨gg, 0, none⟩) (k + 1) cap) = w6 at *
          go_wp2_with fail
          go_roundw
          case rel => exact ⟨k + 1, _, _, _, by omega, by go_num, HR2, HB2⟩
          case measure => simp [intOf]; omega
        | true =>
          have hsb := hsub rfl
          clear hsame hsub
          go_upto_region 7 with (at_builtin; go_must (refine wpList_append_two _ rfl _ _ 23 rfl w1.heap.size 42 iR _ 3 40 Try.underlying23 hiR zR0 zR1 zR2 rfl (by decide) (.slice ra k rc) k (rcells κ b k) rfl HOM.out ⟨wr.heap.size + 1, 0, none⟩ 1 [.int .i64 2, .int .i64 ((kk : Int) + 1), .slice (some ⟨wr.heap.size, 0, none⟩) 1 1] rfl rfl HNA.out (by intro u hu; simp at hu; rcases hu with rfl | rfl | rfl <;> rfl) (by unfold maxLen; omega) (by omega) (by rw [HSA.out]; omega) ?_); intro gg cap w5 hown hg; have hold : ∀ g, g < ((wr.alloc (.cells #[.int .i64 kk] 3)).alloc (.cells #[.int .i64 2, .int .i64 ((kk : Int) + 1), .slice (some ⟨wr.heap.size, 0, none⟩) 1 1] 42)).heap.size → Value.ownBlock (.slice ra k rc) ≠ some g → w5.heap[g]? = ((wr.alloc (.cells #[.int .i64 kk] 3)).alloc (.cells #[.int .i64 2, .int .i64 ((kk : Int) + 1), .slice (some ⟨wr.heap.size, 0, none⟩) 1 1] 42)).heap[g]? := (fun g hg1 hn => by rcases hg with ⟨e1, e2⟩ | ⟨e1, e2⟩; exact e2.block g hg1 (fun e => hn (by rw [e1]; exact e.symm)); exact e2.block g hg1 (by intro e; cases e)); have hbe : Below w1.heap.size ((wr.alloc (.cells #[.int .i64 kk] 3)).alloc (.cells #[.int .i64 2, .int .i64 ((kk : Int) + 1), .slice (some ⟨wr.heap.size, 0, none⟩) 1 1] 42)) w5 := (by rcases hg with ⟨e1, e2⟩ | ⟨e1, e2⟩ <;> exact ⟨e2.os, e2.tape, e2.output, e2.size, fun g hg1 => hold g (by rw [HSA.out]; omega) fun e => by have := (HR.out.rl.own.lt g e).1; omega⟩); have f5 := HR.out.bx.keep ((hold tb (by rw [HSA.out]; have := HR.out.bx.lt; omega) HNT.out).trans (HA.out.block tb HR.out.bx.lt)); have q1 := f5.get (i := 2) rfl; have q2 := f5.frz 2; have HR2 := hide (HR.out.add HA.out (by rw [HKK.out]; exact HNW.out) hold (by rw [HKK.out]; exact hown)); have HB2 := hide ((HBr.out.trans ((HA.out.mono hbs).trans hbe)).setCell (p := ⟨tb, 2, none⟩) HR.out.lo (.slice (some ⟨gg, 0, none⟩) (k + 1) cap)); clear hown hg hold hbe f5)
          clear q1 q2 c2 c2a c2b HR HBr HA HSA HNW HOM HNA HNT HKK
          generalize w5.setCell ⟨tb, 2, none⟩ (.slice (some ⟨gg, 0, none⟩) (k + 1) cap) = w6 at *
          go_wp2_with fail
          go_roundw
          case rel => exact ⟨k + 1, _, _, _, by omega, by go_num, HR2, HB2⟩
          case measure => simp [intOf]; omega
      · have hkM : k = M := by omega
        subst hkM
        subst hM
        clear hlt hk
        have hl2 : ¬ ((N - 1 : Nat) : Int) + 1 < (N : Int) := by omega
        have HBX := hide (HW1.out.trans (HBr.out.mono HW1.out.size))
        cases fc with
        | false =>
          have CS := hide (chain_call (F := []) (ea := none) (ec := 0) hN1 hN2 HR.out (Below.refl _ _) RR.none (.inl rfl))
          have HXB := hide (Below.refl wr.heap.size wr)
          obtain ⟨-, c0, c1, c2, c3⟩ := Bt.of HR.out.bx
          go_upto_region 16 with (go_at_call 10; refine CS.out.mono ?_; rintro _ w2 ⟨va, vc, u, m, rfl, hu, HM, HV, HW2⟩)
          clear c0 c1 c2 c3 CS
          obtain ⟨hu0, hu1⟩ := hu
          have hA := below_new w2 (.cells #[.int .i64 (2 * (N : Int)), .int .i64 u] 35)
          have hQ := heap_alloc_new w2 (.cells #[.int .i64 (2 * (N : Int)), .int .i64 u] 35)
          have q0 : (w2.alloc (.cells #[.int .i64 (2 * (N : Int)), .int .i64 u] 35)).cell? ⟨w2.heap.size, 0, none⟩ = some (.int .i64 (2 * (N : Int))) := Fx.get (vs := [.int .i64 (2 * (N : Int)), .int .i64 u]) hQ rfl
          have q1 : (w2.alloc (.cells #[.int .i64 (2 * (N : Int)), .int .i64 u] 35)).cell? ⟨w2.heap.size, 1, none⟩ = some (.int .i64 u) := Fx.get (vs := [.int .i64 (2 * (N : Int)), .int .i64 u]) hQ rfl
          have HO3 := hide (owns_keep HV.out fun g hg => hA.block g (owns_lt HV.out hg))
          have HB3 := hide (HBX.out.trans ((HXB.out.trans ((HW2.out.trans (hA.mono HW2.out.size)).mono HXB.out.size)).mono HBX.out.size))
          generalize w2.heap.size = q2 at *
          generalize w2.alloc (.cells #[.int .i64 (2 * (N : Int)), .int .i64 u] 35) = W3 at *
          clear hA hQ HV HW2 HR HBr HXB HBX
          go_upto_region 19 with fail
          clear q0 q1
          go_loop [14] (fun x => ∃ k : Nat, k ≤ N ∧ x = .int .i64 k) (fun x => N - (intOf x).toNat)
          case atStart => exact ⟨0, by omega, rfl⟩
          case round =>
            obtain ⟨k, hk, rfl⟩ := hrel
            by_cases hlt : k < N
            · obtain ⟨g, o, rfl, a0⟩ := owns_at1 HO3.out k _ (u8s_at (by rw [HM.out.1]; exact hlt))
              rw [HM.out.2 k hlt] at a0
              rw [show chV [] k = 10 from rfl] at a0
              go_wp2_with fail
              go_round
              case rel => exact ⟨k + 1, by omega, by go_num⟩
              case measure => simp [intOf]; omega
            · go_wp2_with fail
              go_ret
              exact ⟨rfl, HB3.out⟩
        | true =>
          have hA0 := below_new wr (.cells #[.int .i64 0] 3)
          have hX0 : Fx wr.heap.size 3 (ints [0]) (wr.alloc (.cells #[.int .i64 0] 3)) := heap_alloc_new wr (.cells #[.int .i64 0] 3)
          have CS := hide (chain_call (F := [0]) (ea := some ⟨wr.heap.size, 0, none⟩) (ec := 1) hN1 hN2 HR.out hA0 (Ints.blk (l := [0]) hX0 hX0.lt (by decide)) (.inr rfl))
          have HXB := hide hA0
          obtain ⟨-, c0, c1, c2, c3⟩ := Bt.of (HR.out.bx.keep (hA0.block _ HR.out.bx.lt))
          clear hA0 hX0
          go_upto_region 16 with (go_at_call 10; refine CS.out.mono ?_; rintro _ w2 ⟨va, vc, u, m, rfl, hu, HM, HV, HW2⟩)
          clear c0 c1 c2 c3 CS
          obtain ⟨hu0, hu1⟩ := hu
          have hA := below_new w2 (.cells #[.int .i64 (2 * (N : Int)), .int .i64 u] 35)
          have hQ := heap_alloc_new w2 (.cells #[.int .i64 (2 * (N : Int)), .int .i64 u] 35)
          have q0 : (w2.alloc (.cells #[.int .i64 (2 * (N : Int)), .int .i64 u] 35)).cell? ⟨w2.heap.size, 0, none⟩ = some (.int .i64 (2 * (N : Int))) := Fx.get (vs := [.int .i64 (2 * (N : Int)), .int .i64 u]) hQ rfl
          have q1 : (w2.alloc (.cells #[.int .i64 (2 * (N : Int)), .int .i64 u] 35)).cell? ⟨w2.heap.size, 1, none⟩ = some (.int .i64 u) := Fx.get (vs := [.int .i64 (2 * (N : Int)), .int .i64 u]) hQ rfl
          have HO3 := hide (owns_keep HV.out fun g hg => hA.block g (owns_lt HV.out hg))
          have HB3 := hide (HBX.out.trans ((HXB.out.trans ((HW2.out.trans (hA.mono HW2.out.size)).mono HXB.out.size)).mono HBX.out.size))
          generalize w2.heap.size = q2 at *
          generalize w2.alloc (.cells #[.int .i64 (2 * (N : Int)), .int .i64 u] 35) = W3 at *
          clear hA hQ HV HW2 HR HBr HXB HBX
          go_upto_region 19 with fail
          clear q0 q1
          go_loop [14] (fun x => ∃ k : Nat, k ≤ N ∧ x = .int .i64 k) (fun x => N - (intOf x).toNat)
          case atStart => exact ⟨0, by omega, rfl⟩
          case round =>
            obtain ⟨k, hk, rfl⟩ := hrel
            by_cases hlt : k < N
            · obtain ⟨g, o, rfl, a0⟩ := owns_at1 HO3.out k _ (u8s_at (by rw [HM.out.1]; exact hlt))
              rw [HM.out.2 k hlt] at a0
              by_cases hk0 : k = 0
              · subst hk0
                rw [show chV [0] 0 = 5 from rfl, Nat.add_zero] at a0
                go_wp2_with fail
                go_round
                case rel => exact ⟨0 + 1, by omega, by go_num⟩
                case measure => simp [intOf]; omega
              · rw [show chV [0] k = 6 from by unfold chV; rw [if_neg (by decide), if_neg hk0]] at a0
                have hk1 : ¬ (k : Int) = 0 := by omega
                go_wp2_with fail
                go_round
                case rel => exact ⟨k + 1, by omega, by go_num⟩
                case measure => simp [intOf]; omega
            · go_wp2_with fail
              go_ret
              exact ⟨rfl, HB3.out⟩
end Go.Proofs.Ythifoamnmhlghaa.Fa
