/- works: the page's examples. -/
import Derived.Test.YtcobmbclhhimjaaGreatFct
import Derived.Test.YtcobmbclhhimjaaGreatHd
namespace Go.Proofs.YtcobmbclhhimjaaGreat.Fa
open Go.RowKit

theorem num_still (w : World) (e : Int) : Calls Tryz.prog 11 #[.int .i64 e] w fun r w' => r = .returned (.int .i64 e) ∧ w' = w := by
  go_enter Tryz.func11, Tryz.ntmps11
  go_wp2_with fail
  go_ret
  exact ⟨rfl, rfl⟩
def exT (B : List (List Int)) : Th := ⟨2, [[1], [0]], [⟨2, 0, []⟩, ⟨2, 1, []⟩], B⟩
theorem ex_ok1 : faultM (exT [[1], []]) [] = 0 := by decide +kernel
theorem ex_ok2 : faultM (exT [[], []]) [] = 0 := by decide +kernel
theorem ex_sol1 : Sol (exT [[1], []]) [] [6, 10] 3 := by unfold Sol; decide +kernel
theorem ex_sol2 : Sol (exT [[], []]) [] [10, 10] 3 := by unfold Sol; decide +kernel
theorem ex_cnt : cntF [6, 10] 2 = 4 := by decide +kernel
theorem RR.blk {α : Type} {N k : Nat} {c : World → α → List Value → Prop} {w : World} {l : List α} {g T cap : Nat} {vs : List Value} (hg : Fx g T vs w) (hN : g < N) (hcap : l.length ≤ cap) (hlim : l.length ≤ 140737488351232)
    (hc : ∀ i x, l[i]? = some x → ∃ xs, xs.length = k ∧ (∀ j u, xs[j]? = some u → vs[i * k + j]? = some u) ∧ c w x xs) : RR N k c w l (.slice (some ⟨g, 0, none⟩) l.length cap) := by
  refine ⟨_, cap, rfl, hcap, hlim, fun i x hi => ?_⟩
  obtain ⟨xs, h1, h2, h3⟩ := hc i x hi
  exact ⟨g, 0, xs, rfl, hN, h1, fun j u hu => by rw [Nat.zero_add]; exact hg.get (h2 j u hu), h3⟩
theorem RR.none {α : Type} {N k : Nat} {c : World → α → List Value → Prop} {w : World} : RR N k c w [] (.slice .none 0 0) := ⟨_, _, rfl, Nat.le_refl _, Nat.zero_le _, fun i x hi => by simp at hi⟩
theorem one_at {vs : List Value} {i : Nat} {x : Value} (h : vs[i]? = some x) : ∀ j u, [x][j]? = some u → vs[i * 1 + j]? = some u := by
  intro j u hu
  match j, hu with
  | 0, hu => simp at hu; subst hu; simpa using h
theorem Ints.blk {N g T : Nat} {w : World} {l : List Int} (hg : Fx g T (ints l) w) (hN : g < N) (hlim : l.length ≤ 140737488351232) : Ints N w l (.slice (some ⟨g, 0, none⟩) l.length l.length) :=
  RR.blk hg hN (Nat.le_refl _) hlim fun i x hi => ⟨[.int .i64 x], rfl, one_at (by unfold ints; rw [List.getElem?_map, hi]; rfl), rfl⟩
theorem Lists.blk {N g T : Nat} {w : World} {l : List (List Int)} {vs : List Value} (hg : Fx g T vs w) (hN : g < N) (hlim : l.length ≤ 140737488351232) (hc : ∀ (i : Nat) x, l[i]? = some x → ∃ v, vs[i]? = some v ∧ Ints N w x v) : Lists N w l (.slice (some ⟨g, 0, none⟩) l.length l.length) :=
  RR.blk hg hN (Nat.le_refl _) hlim fun i x hi => by
    obtain ⟨v, h1, h2⟩ := hc i x hi
    exact ⟨[v], rfl, one_at h1, v, rfl, h2⟩
theorem two_of {α : Type} {P : Nat → α → Prop} {a b : α} (ha : P 0 a) (hb : P 1 b) : ∀ i x, [a, b][i]? = some x → P i x := by
  intro i x hi
  match i, hi with
  | 0, hi => simp at hi; subst hi; exact ha
  | 1, hi => simp at hi; subst hi; exact hb
/-- So many new things, one behind the other. -/
def allocs (w : World) : List Obj → World
  | [] => w
  | o :: r => allocs (w.alloc o) r
theorem allocs_facts : ∀ (os : List Obj) (w : World), Below w.heap.size w (allocs w os) ∧ (allocs w os).heap.size = w.heap.size + os.length ∧ ∀ (i : Nat) o, os[i]? = some o → (allocs w os).heap[w.heap.size + i]? = some o
  | [], w => ⟨Below.refl _ _, rfl, fun i o h => by simp at h⟩
  | o :: r, w => by
    obtain ⟨h1, h2, h3⟩ := allocs_facts r (w.alloc o)
    have hs : (w.alloc o).heap.size = w.heap.size + 1 := by simp
    have hb := below_new w o
    rw [hs] at h1 h2 h3
    refine ⟨hb.trans (h1.mono (by omega)), by show (allocs (w.alloc o) r).heap.size = _; rw [h2]; simp; omega, fun i q hq => ?_⟩
    cases i with
    | zero =>
      simp at hq
      subst hq
      show (allocs (w.alloc o) r).heap[w.heap.size]? = _
      rw [h1.block _ (by omega)]
      exact heap_alloc_new w o
    | succ i =>
      have := h3 i q (by simpa using hq)
      show (allocs (w.alloc o) r).heap[w.heap.size + (i + 1)]? = _
      rw [← this]
      congr 1
      omega
/-- The example's foes and rules in memory. -/
structure Ev (n : Nat) (w : World) : Prop where
  b0 : Fx n 3 (ints [1]) w
  b1 : Fx (n + 1) 3 (ints [0]) w
  b2 : Fx (n + 1 + 1) 26 [.slice (some ⟨n, 0, none⟩) 1 1, .slice (some ⟨n + 1, 0, none⟩) 1 1] w
  b3 : Fx (n + 1 + 1 + 1) 81 [.int .i64 2, .int .i64 0, .slice none 0 0, .int .i64 2, .int .i64 1, .slice none 0 0] w
theorem Ev.keep {n : Nat} {w w' : World} (h : Ev n w) (hb : ∀ g, g < n + 4 → w'.heap[g]? = w.heap[g]?) : Ev n w' := ⟨h.b0.keep (hb _ (by omega)), h.b1.keep (hb _ (by omega)), h.b2.keep (hb _ (by omega)), h.b3.keep (hb _ (by omega))⟩
theorem Ev.ta {n N : Nat} {w : World} {B : List (List Int)} {ba : Option Addr} {bc : Nat} (h : Ev n w) (hN : n + 4 ≤ N) (hB : Lists N w B (.slice ba B.length bc)) : TA N w (exT B) (some ⟨n + 1 + 1, 0, none⟩) 2 (some ⟨n + 1 + 1 + 1, 0, none⟩) 2 ba bc := by
  refine ⟨?_, ?_, hB⟩
  · exact Lists.blk (l := [[1], [0]]) h.b2 (by omega) (by decide) (two_of ⟨_, rfl, Ints.blk (l := [1]) h.b0 (by omega) (by decide)⟩ ⟨_, rfl, Ints.blk (l := [0]) h.b1 (by omega) (by decide)⟩)
  · refine RR.blk (l := (exT B).rules) (cap := 2) h.b3 (by omega) (show 2 ≤ 2 by decide) (show 2 ≤ 140737488351232 by decide) (two_of ⟨_, rfl, ?_, _, rfl, RR.none⟩ ⟨_, rfl, ?_, _, rfl, RR.none⟩)
    · intro j u hu; match j, hu with
      | 0, hu => exact hu
      | 1, hu => exact hu
      | 2, hu => exact hu
    · intro j u hu; match j, hu with
      | 0, hu => exact hu
      | 1, hu => exact hu
      | 2, hu => exact hu
def exO (n : Nat) : List Obj := [.cells #[.int .i64 1] 3, .cells #[.int .i64 0] 3, .cells #[.slice (some ⟨n, 0, none⟩) 1 1, .slice (some ⟨n + 1, 0, none⟩) 1 1] 26, .cells #[.int .i64 2, .int .i64 0, .slice none 0 0, .int .i64 2, .int .i64 1, .slice none 0 0] 81, .cells #[.int .i64 1] 3, .cells #[.slice (some ⟨n + 1 + 1 + 1 + 1, 0, none⟩) 1 1, .slice none 0 0] 26, .cells #[.int .i64 2, .slice (some ⟨n + 1 + 1, 0, none⟩) 2 2, .slice (some ⟨n + 1 + 1 + 1, 0, none⟩) 2 2, .slice (some ⟨n + 1 + 1 + 1 + 1 + 1, 0, none⟩) 2 2] 25]
set_option maxRecDepth 100000 in
set_option maxHeartbeats 6400000 in
theorem works_any {w : World} : Calls Tryz.prog 14 #[] w fun e w' => e = .returned (.bool true) ∧ Below w.heap.size w w' := by
  have HE : Hid ((((((((w.alloc (.cells #[.int .i64 1] 3)).alloc (.cells #[.int .i64 0] 3)).alloc (.cells #[.slice (some ⟨w.heap.size, 0, none⟩) 1 1, .slice (some ⟨w.heap.size + 1, 0, none⟩) 1 1] 26)).alloc (.cells #[.int .i64 2, .int .i64 0, .slice none 0 0, .int .i64 2, .int .i64 1, .slice none 0 0] 81)).alloc (.cells #[.int .i64 1] 3)).alloc (.cells #[.slice (some ⟨w.heap.size + 1 + 1 + 1 + 1, 0, none⟩) 1 1, .slice none 0 0] 26)).alloc (.cells #[.int .i64 2, .slice (some ⟨w.heap.size + 1 + 1, 0, none⟩) 2 2, .slice (some ⟨w.heap.size + 1 + 1 + 1, 0, none⟩) 2 2, .slice (some ⟨w.heap.size + 1 + 1 + 1 + 1 + 1, 0, none⟩) 2 2] 25)) = allocs w (exO w.heap.size)) := hide rfl
  obtain ⟨f1, f2, f3⟩ := allocs_facts (exO w.heap.size) w
  have HEV : Hid (Ev w.heap.size (allocs w (exO w.heap.size))) := hide ⟨f3 0 _ rfl, f3 1 _ rfl, f3 2 _ rfl, f3 3 _ rfl⟩
  have HB6 : Hid (Fx (w.heap.size + 1 + 1 + 1 + 1) 3 (ints [1]) (allocs w (exO w.heap.size))) := hide (f3 4 _ rfl)
  have HB7 : Hid (Fx (w.heap.size + 1 + 1 + 1 + 1 + 1) 26 [.slice (some ⟨w.heap.size + 1 + 1 + 1 + 1, 0, none⟩) 1 1, .slice none 0 0] (allocs w (exO w.heap.size))) := hide (f3 5 _ rfl)
  have HTB : Hid ((allocs w (exO w.heap.size)).heap[w.heap.size + 1 + 1 + 1 + 1 + 1 + 1]? = some (.cells #[.int .i64 2, .slice (some ⟨w.heap.size + 1 + 1, 0, none⟩) 2 2, .slice (some ⟨w.heap.size + 1 + 1 + 1, 0, none⟩) 2 2, .slice (some ⟨w.heap.size + 1 + 1 + 1 + 1 + 1, 0, none⟩) 2 2] 25 (0, 0))) := hide (f3 6 _ rfl)
  have HSZ : Hid ((allocs w (exO w.heap.size)).heap.size = w.heap.size + 7) := hide f2
  have HB := hide f1
  clear f1 f2 f3
  go_enter Tryz.func14, Tryz.ntmps14
  go_upto_region 2 with fail
  rw [HE.out]
  clear HE
  generalize allocs w (exO w.heap.size) = W at *
  obtain ⟨-, c0, c1, c2, c3⟩ := Bt.of HTB.out
  have HC1 : Hid (Calls Tryz.prog 9 #[.agg #[.int .i64 2, .slice (some ⟨w.heap.size + 1 + 1, 0, none⟩) 2 2, .slice (some ⟨w.heap.size + 1 + 1 + 1, 0, none⟩) 2 2, .slice (some ⟨w.heap.size + 1 + 1 + 1 + 1 + 1, 0, none⟩) 2 2], .slice none 0 0] W fun e w' => ∃ v u, e = .returned (.tuple #[v, .agg #[.int .i64 4, .int .i64 u], .int .i64 0]) ∧ Hid (w'.ownsRow W.heap.size 77 1 v 2 (u8s [6, 10])) ∧ Hid (Below W.heap.size W w')) := hide (by
    have hs := HSZ.out
    have h6 := HB6.out
    have h7 := HB7.out
    have hL : Lists W.heap.size W [[1], []] (.slice (some ⟨w.heap.size + 1 + 1 + 1 + 1 + 1, 0, none⟩) 2 2) := Lists.blk (l := [[1], []]) h7 h7.lt (by decide) (two_of ⟨_, rfl, Ints.blk (l := [1]) h6 h6.lt (by decide)⟩ ⟨_, rfl, RR.none⟩)
    have hT := HEV.out.ta (N := W.heap.size) (by omega) hL
    have hI : Ints W.heap.size W [] (.slice none 0 0) := RR.none
    refine (Counted_ok hT hI ex_ok1 (P := fun _ => True) trivial fun _ _ _ _ => trivial).mono ?_
    rintro e w' ⟨v, m, i, es, h1, h2, h3, h4, h5, -, h6⟩
    have := sol_one h2 ex_sol1
    subst this
    have hlen := told_len (pf_of ex_ok1) h2 h4.1 h4.2 h5
    rw [show (exT [[1], []]).lits.toNat = 2 from rfl, ex_cnt] at hlen
    rw [hlen] at h1
    exact ⟨v, es.up, h1, hide h3, hide h6⟩)
  go_upto_region 3 with (go_at_call 9; refine HC1.out.mono ?_; rintro _ w1 ⟨v, u, rfl, HV, HW1⟩)
  have hA := below_new w1 (.cells #[.int .i64 4, .int .i64 u] 34)
  have HQ : Hid ((w1.alloc (.cells #[.int .i64 4, .int .i64 u] 34)).heap[w1.heap.size]? = some (.cells #[.int .i64 4, .int .i64 u] 34 (0, 0))) := hide (heap_alloc_new w1 (.cells #[.int .i64 4, .int .i64 u] 34))
  have hWA : Below W.heap.size W (w1.alloc (.cells #[.int .i64 4, .int .i64 u] 34)) := HW1.out.trans (hA.mono HW1.out.size)
  have HBW := hide (HB.out.trans (hWA.mono HB.out.size))
  have HEV1 := hide (HEV.out.keep (w' := w1.alloc (.cells #[.int .i64 4, .int .i64 u] 34)) fun g hg => hWA.block g (by have := HSZ.out; omega))
  have HTB1 := hide ((hWA.block _ (loc_lt HTB.out)).trans HTB.out)
  have hV := HV.out
  obtain ⟨va, vc, rfl⟩ := owns_slice hV
  have HVL : Hid (∀ g, Value.ownBlock (.slice va 2 vc) = some g → w.heap.size + 7 ≤ g ∧ g < w1.heap.size) := hide fun g e => by have := hV.lt g e; have := HSZ.out; omega
  have HV1 : Hid ((w1.alloc (.cells #[.int .i64 4, .int .i64 u] 34)).ownsRow 0 77 1 (.slice va 2 vc) 2 (u8s [6, 10])) := hide (owns_keep (owns_down hV (Nat.zero_le _)) fun g e => hA.block g (HVL.out g e).2)
  have HS1 : Hid (w.heap.size + 7 ≤ w1.heap.size) := hide (by have := HW1.out.size; have := HSZ.out; omega)
  have HQL : Hid (w1.heap.size < (w1.alloc (.cells #[.int .i64 4, .int .i64 u] 34)).heap.size) := hide (loc_lt HQ.out)
  clear c0 c1 c2 c3 HC1 HEV HB6 HB7 HTB HB hWA hV HV HW1 hA HSZ
  generalize w1.alloc (.cells #[.int .i64 4, .int .i64 u] 34) = W1 at *
  generalize w1.heap.size = q1 at *
  have hA := below_new W1 (.cells #[.slice none 0 0, .slice none 0 0] 26)
  have HO9 := hide (heap_alloc_new W1 (.cells #[.slice none 0 0, .slice none 0 0] 26))
  have hT2 : (W1.alloc (.cells #[.slice none 0 0, .slice none 0 0] 26)).heap[w.heap.size + 1 + 1 + 1 + 1 + 1 + 1]? = some (.cells #[.int .i64 2, .slice (some ⟨w.heap.size + 1 + 1, 0, none⟩) 2 2, .slice (some ⟨w.heap.size + 1 + 1 + 1, 0, none⟩) 2 2, .slice (some ⟨w.heap.size + 1 + 1 + 1 + 1 + 1, 0, none⟩) 2 2] 25 (0, 0)) := (hA.block _ (loc_lt HTB1.out)).trans HTB1.out
  have HT2 := hide hT2
  have HA := hide hA
  clear hA hT2
  have HTB2 : Hid (((W1.alloc (.cells #[.slice none 0 0, .slice none 0 0] 26)).setCell ⟨w.heap.size + 1 + 1 + 1 + 1 + 1 + 1, 3, none⟩ (.slice (some ⟨W1.heap.size, 0, none⟩) 2 2)).heap[w.heap.size + 1 + 1 + 1 + 1 + 1 + 1]? = some (.cells #[.int .i64 2, .slice (some ⟨w.heap.size + 1 + 1, 0, none⟩) 2 2, .slice (some ⟨w.heap.size + 1 + 1 + 1, 0, none⟩) 2 2, .slice (some ⟨W1.heap.size, 0, none⟩) 2 2] 25 (0, 0))) := hide (loc_set HT2.out)
  have HO2 : Hid (Fx W1.heap.size 26 [.slice none 0 0, .slice none 0 0] ((W1.alloc (.cells #[.slice none 0 0, .slice none 0 0] 26)).setCell ⟨w.heap.size + 1 + 1 + 1 + 1 + 1 + 1, 3, none⟩ (.slice (some ⟨W1.heap.size, 0, none⟩) 2 2))) := hide ((other_set (by have := HS1.out; have := HQL.out; omega)).trans HO9.out)
  have HQ2 : Hid (((W1.alloc (.cells #[.slice none 0 0, .slice none 0 0] 26)).setCell ⟨w.heap.size + 1 + 1 + 1 + 1 + 1 + 1, 3, none⟩ (.slice (some ⟨W1.heap.size, 0, none⟩) 2 2)).heap[q1]? = some (.cells #[.int .i64 4, .int .i64 u] 34 (0, 0))) := hide (((other_set (by have := HS1.out; omega)).trans (HA.out.block q1 HQL.out)).trans HQ.out)
  have HEV2 : Hid (Ev w.heap.size ((W1.alloc (.cells #[.slice none 0 0, .slice none 0 0] 26)).setCell ⟨w.heap.size + 1 + 1 + 1 + 1 + 1 + 1, 3, none⟩ (.slice (some ⟨W1.heap.size, 0, none⟩) 2 2))) := hide (HEV1.out.keep fun g hg => (other_set (by omega)).trans (HA.out.block g (by have := HS1.out; have := HQL.out; omega)))
  have HV2 : Hid (((W1.alloc (.cells #[.slice none 0 0, .slice none 0 0] 26)).setCell ⟨w.heap.size + 1 + 1 + 1 + 1 + 1 + 1, 3, none⟩ (.slice (some ⟨W1.heap.size, 0, none⟩) 2 2)).ownsRow 0 77 1 (.slice va 2 vc) 2 (u8s [6, 10])) := hide (owns_keep HV1.out fun g e => (other_set (by have := HVL.out g e; omega)).trans (HA.out.block g (owns_lt HV1.out e)))
  have HBW2 : Hid (Below w.heap.size w ((W1.alloc (.cells #[.slice none 0 0, .slice none 0 0] 26)).setCell ⟨w.heap.size + 1 + 1 + 1 + 1 + 1 + 1, 3, none⟩ (.slice (some ⟨W1.heap.size, 0, none⟩) 2 2))) := hide ((HBW.out.trans (HA.out.mono HBW.out.size)).setCell (p := ⟨w.heap.size + 1 + 1 + 1 + 1 + 1 + 1, 3, none⟩) (by show w.heap.size ≤ w.heap.size + 1 + 1 + 1 + 1 + 1 + 1; omega) _)
  have HS2 : Hid (w.heap.size + 7 < ((W1.alloc (.cells #[.slice none 0 0, .slice none 0 0] 26)).setCell ⟨w.heap.size + 1 + 1 + 1 + 1 + 1 + 1, 3, none⟩ (.slice (some ⟨W1.heap.size, 0, none⟩) 2 2)).heap.size) := hide (by have := HA.out.size; have := HS1.out; have := HQL.out; simp; omega)
  have d3 : (W1.alloc (.cells #[.slice none 0 0, .slice none 0 0] 26)).cell? ⟨w.heap.size + 1 + 1 + 1 + 1 + 1 + 1, 3, none⟩ = some (.slice (some ⟨w.heap.size + 1 + 1 + 1 + 1 + 1, 0, none⟩) 2 2) := (Bt.of HT2.out).c3
  have f3 : (W1.alloc (.cells #[.slice none 0 0, .slice none 0 0] 26)).frozen? ⟨w.heap.size + 1 + 1 + 1 + 1 + 1 + 1, 3, none⟩ = false := frozen_of_row _ _ 3 _ _ HT2.out
  go_upto_region 4 with fail
  clear d3 f3
  generalize hw1 : W1.heap.size = n1 at *
  generalize (W1.alloc (.cells #[.slice none 0 0, .slice none 0 0] 26)).setCell ⟨w.heap.size + 1 + 1 + 1 + 1 + 1 + 1, 3, none⟩ (.slice (some ⟨n1, 0, none⟩) 2 2) = W2 at *
  clear HTB1 HO9 HT2 HA HV1 HEV1 HBW HS1 hw1 HQ HQL
  obtain ⟨-, c0, c1, c2, c3⟩ := Bt.of HTB2.out
  have HC2 : Hid (Calls Tryz.prog 8 #[.agg #[.int .i64 2, .slice (some ⟨w.heap.size + 1 + 1, 0, none⟩) 2 2, .slice (some ⟨w.heap.size + 1 + 1 + 1, 0, none⟩) 2 2, .slice (some ⟨n1, 0, none⟩) 2 2], .slice none 0 0] W2 fun e w' => ∃ v, e = .returned (.tuple #[v, .int .i64 0]) ∧ Hid (w'.ownsRow W2.heap.size 77 1 v 2 (u8s [10, 10])) ∧ Hid (Below W2.heap.size W2 w')) := hide (by
    have hs := HS2.out
    have h7 := HO2.out
    have hL : Lists W2.heap.size W2 [[], []] (.slice (some ⟨n1, 0, none⟩) 2 2) := Lists.blk (l := [[], []]) h7 h7.lt (by decide) (two_of ⟨_, rfl, RR.none⟩ ⟨_, rfl, RR.none⟩)
    have hT := HEV2.out.ta (N := W2.heap.size) (by omega) hL
    have hI : Ints W2.heap.size W2 [] (.slice none 0 0) := RR.none
    refine (Run_ok hT hI ex_ok2).mono ?_
    rintro e w' ⟨v, m, i, h1, h2, h3, h4⟩
    have := sol_one h2 ex_sol2
    subst this
    exact ⟨v, h1, hide h3, hide h4⟩)
  go_upto_region 5 with (go_at_call 8; refine HC2.out.mono ?_; rintro _ w5 ⟨x, rfl, HU, HW5⟩)
  have HBF : Hid (Below w.heap.size w w5) := hide (HBW2.out.trans (HW5.out.mono HBW2.out.size))
  have hv := owns_keep HV2.out fun g e => HW5.out.block g (owns_lt HV2.out e)
  have hq5 := (HW5.out.block _ (loc_lt HQ2.out)).trans HQ2.out
  have q0 : w5.cell? ⟨q1, 0, none⟩ = some (.int .i64 4) := Fx.get (vs := [.int .i64 4, .int .i64 u]) hq5 rfl
  obtain ⟨ua, uc, rfl⟩ := owns_slice HU.out
  obtain ⟨g1, o1, rfl, a0⟩ := owns_at1 hv 0 _ rfl
  obtain ⟨_, _, e1, a1⟩ := owns_at1 hv 1 _ rfl
  cases e1
  obtain ⟨g2, o2, rfl, b0⟩ := owns_at1 HU.out 0 _ rfl
  obtain ⟨_, _, e1, b1⟩ := owns_at1 HU.out 1 _ rfl
  cases e1
  rw [Nat.add_zero] at a0 b0
  have CN := hide (num_still w5 0)
  clear HC2 HO2 HEV2 HV2 HBW2 HS2 hv HU HW5 c0 c1 c2 c3 HTB2 HVL hq5 HQ2
  go_wp2_with (go_at_call 11; refine CN.out.mono ?_; rintro _ w6 ⟨rfl, rfl⟩)
  go_ret
  exact ⟨rfl, HBF.out⟩
end Go.Proofs.YtcobmbclhhimjaaGreat.Fa
