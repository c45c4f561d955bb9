/- NaiveLoops, walked. -/
import Derived.Test.YtbnkdfhjdjgnhaaLopM
namespace Go.Proofs.Ytbnkdfhjdjgnhaa
open Go.RowKit

/-- The law's theory in its box. -/
structure Rb (base n k : Nat) (tb f bb : Nat) (b : Nat → Nat) (ra : Option Addr) (rc : Nat) (w : World) : Prop where
  bx : Fx tb 25 [.int .i64 n, .slice (some ⟨f, 0, none⟩) n n, .slice ra k rc, .slice (some ⟨bb, 0, none⟩) n n] w
  ff : Fx f 26 (List.replicate n (.slice none 0 0)) w
  fb : Fx bb 26 (List.replicate n (.slice none 0 0)) w
  rl : Rl base n k b (.slice ra k rc) w
  lo : base ≤ tb
theorem mod_pos {z : Int} : -50 < z.tmod 50 ∧ z.tmod 50 < 50 := by
  have h1 := Int.tmod_lt_of_pos z (show (0 : Int) < 50 by decide)
  have h2 := Int.tmod_lt_of_pos (-z) (show (0 : Int) < 50 by decide)
  rw [Int.neg_tmod] at h2
  omega
theorem Rb.start {base n tb f bb : Nat} {w : World} (h1 : w.heap[tb]? = some (.cells #[.int .i64 n, .slice (some ⟨f, 0, none⟩) n n, .slice none 0 0, .slice (some ⟨bb, 0, none⟩) n n] 25 (0, 0))) (h2 : w.heap[f]? = some (.cells (Array.replicate n (.slice none 0 0)) 26 (0, 0))) (h3 : w.heap[bb]? = some (.cells (Array.replicate n (.slice none 0 0)) 26 (0, 0))) (hl : base ≤ tb) : Rb base n 0 tb f bb (fun _ => 0) none 0 w := by
  refine ⟨h1, by unfold Fx; rw [h2]; simp, by unfold Fx; rw [h3]; simp, ⟨World.ownsRow_nil _ _ _ _, fun i hi => by omega⟩, hl⟩
theorem own_ne3 {w : World} {b e k q e2 : Nat} {v : Value} {n : Nat} {xs vs : List Value} (h : w.ownsRow b e k v n xs) (hq : Fx q e2 vs w) (hne : e ≠ e2) : v.ownBlock ≠ some q := by
  intro hg
  rcases h.2 with ⟨h1, _⟩ | ⟨g', _, cur, h1, _, h3, _⟩
  · rw [h1] at hg; cases hg
  · rw [h1] at hg; cases hg; unfold Fx at hq; rw [hq] at h3; cases h3; exact hne rfl
theorem grown_old3 {wr X w5 : World} {v : Value} (hgrow : X.drew.grownBy w5 v.ownBlock) (hA : Below wr.heap.size wr X) {k : Nat} (hk : k < wr.heap.size) (hn : v.ownBlock ≠ some k) : w5.heap[k]? = wr.heap[k]? := (hgrow.block k (Nat.lt_of_lt_of_le hk hA.size) fun e => hn e.symm).trans (hA.block k hk)
theorem Rb.add {base n k tb f bb hd gg cap rc : Nat} {b : Nat → Nat} {ra : Option Addr} {wr X w5 : World} (h : Rb base n k tb f bb b ra rc wr) (hA : Below wr.heap.size wr X) (hnw : Fx wr.heap.size 3 (ints [(k : Int)]) X) (hgrow : X.drew.grownBy w5 (Value.ownBlock (.slice ra k rc)))
    (hown : w5.ownsRow base 41 3 (.slice (some ⟨gg, 0, none⟩) (k + 1) cap) (k + 1) (rcells n b k ++ [.int .i64 2, .int .i64 (hd : Int), .slice (some ⟨wr.heap.size, 0, none⟩) 1 1])) (hhd : (k + 1) % n = hd) :
    Rb base n (k + 1) tb f bb (up b k wr.heap.size) (some ⟨gg, 0, none⟩) cap (w5.setCell ⟨tb, 2, none⟩ (.slice (some ⟨gg, 0, none⟩) (k + 1) cap)) := by
  have hb5 := h.bx.keep (grown_old3 hgrow hA h.bx.lt (own_ne3 h.rl.own h.bx (by decide)))
  have hf5 := h.ff.keep (grown_old3 hgrow hA h.ff.lt (own_ne3 h.rl.own h.ff (by decide)))
  have hB5 := h.fb.keep (grown_old3 hgrow hA h.fb.lt (own_ne3 h.rl.own h.fb (by decide)))
  refine ⟨hb5.set 2 _, hf5.keep (other_set (fx_ne hf5 hb5 (by decide))), hB5.keep (other_set (fx_ne hB5 hb5 (by decide))), ⟨?_, fun i hi => ?_⟩, h.lo⟩
  · have e : rcells n (up b k wr.heap.size) (k + 1) = rcells n b k ++ [.int .i64 2, .int .i64 (hd : Int), .slice (some ⟨wr.heap.size, 0, none⟩) 1 1] := by
      rw [rcells, rcells_up (Nat.le_refl _)]
      unfold rcell
      rw [up_at, hhd]
    rw [e]
    exact owns_keep hown fun g hg => other_set fun e2 => own_ne3 hown hb5 (by decide) (e2 ▸ hg)
  · by_cases e : i = k
    · subst e
      rw [up_at]
      have h1 := hnw.keep (hgrow.block _ hnw.lt fun e => by have := owns_lt h.rl.own e.symm; omega)
      exact h1.keep (other_set (fx_ne h1 hb5 (by decide)))
    · rw [up_off e]
      have h0 := h.rl.bod i (by omega)
      have h1 := h0.keep (grown_old3 hgrow hA h0.lt (own_ne3 h.rl.own h0 (by decide)))
      exact h1.keep (other_set (fx_ne h1 hb5 (by decide)))
theorem Rb.lists {n g : Nat} {w : World} (h : Fx g 26 (List.replicate n (.slice none 0 0)) w) (hn : n ≤ 50) : Lists w.heap.size w (List.replicate n []) (.slice (some ⟨g, 0, none⟩) n n) := by
  have := Lists.blk (l := List.replicate n ([] : List Int)) h h.lt (by simp; omega) fun i x hi => by
    rw [List.getElem?_replicate] at hi
    split at hi
    · rename_i hin
      cases hi
      exact ⟨.slice none 0 0, by rw [List.getElem?_replicate, if_pos hin], RR.none⟩
    · cases hi
  rw [List.length_replicate] at this
  exact this
theorem ring_len {n k : Nat} : (ringR n k).length = k := by unfold ringR; simp
theorem ring_take {n k : Nat} : (ringR n k).take (k - 1) = ringR n (k - 1) := by
  unfold ringR
  rw [← List.map_take, List.take_range, Nat.min_eq_left (by omega)]
theorem Rb.ta {base n tb f bb rc : Nat} {b : Nat → Nat} {ra : Option Addr} {w w' : World} (h : Rb base n n tb f bb b ra rc w) (hn : n ≤ 50) (hb : Below w.heap.size w w') : TA w'.heap.size w' (ringT n n) (some ⟨f, 0, none⟩) n ra rc (some ⟨bb, 0, none⟩) n := by
  refine TR.go hb ⟨?_, ?_, ?_⟩
  · show Lists _ _ (List.replicate n []) (.slice _ (List.replicate n ([] : List Int)).length n)
    rw [List.length_replicate]
    exact Rb.lists h.ff hn
  · exact h.rl.rules hn
  · show Lists _ _ (List.replicate n []) (.slice _ (List.replicate n ([] : List Int)).length n)
    rw [List.length_replicate]
    exact Rb.lists h.fb hn
theorem Rb.ta2 {base n tb f bb rc : Nat} {b : Nat → Nat} {ra : Option Addr} {w w' : World} (h : Rb base n n tb f bb b ra rc w) (hn : n ≤ 50) (hb : ∀ g, g < w.heap.size → g ≠ tb → w'.heap[g]? = w.heap[g]?) : TA w'.heap.size w' (ringT n (n - 1)) (some ⟨f, 0, none⟩) n ra rc (some ⟨bb, 0, none⟩) n := by
  have hf := h.ff.keep (hb _ h.ff.lt (fx_ne h.ff h.bx (by decide)))
  have hB := h.fb.keep (hb _ h.fb.lt (fx_ne h.fb h.bx (by decide)))
  have hrl : Rl base n n b (.slice ra n rc) w' := ⟨owns_keep h.rl.own fun g e => hb g (owns_lt h.rl.own e) fun e2 => own_ne3 h.rl.own h.bx (by decide) (e2 ▸ e), fun i hi => (h.rl.bod i hi).keep (hb _ (h.rl.bod i hi).lt (fx_ne (h.rl.bod i hi) h.bx (by decide)))⟩
  refine ⟨?_, ?_, ?_⟩
  · show Lists _ _ (List.replicate n []) (.slice _ (List.replicate n ([] : List Int)).length n)
    rw [List.length_replicate]
    exact Rb.lists hf hn
  · show Rules _ _ (ringR n (n - 1)) (.slice ra (ringR n (n - 1)).length rc)
    have h1 := RR.take (hrl.rules hn) (n - 1) (by rw [ring_len]; omega) _ _ _ rfl
    rw [ring_take] at h1
    rw [ring_len]
    exact h1
  · show Lists _ _ (List.replicate (n - 1) []) (.slice _ (List.replicate (n - 1) ([] : List Int)).length n)
    rw [List.length_replicate]
    have h1 := RR.take (Rb.lists hB hn) (n - 1) (by simp) _ _ _ rfl
    rw [List.take_replicate, Nat.min_eq_left (by omega)] at h1
    exact h1
theorem ring_fine {n : Nat} (h1 : 1 ≤ n) (h2 : n ≤ 50) : faultM (ringT n n) [] = 0 ∧ faultM (ringT n (n - 1)) [] = 0 := by
  have := ring_ok ⟨n - 1, by omega⟩
  simp only [show n - 1 + 1 = n by omega] at this
  exact this
theorem alloc3 (W : World) (o1 o2 o3 : Obj) : Below W.heap.size W (((W.alloc o1).alloc o2).alloc o3).drew ∧ (((W.alloc o1).alloc o2).alloc o3).drew.heap[W.heap.size]? = some o1 ∧ (((W.alloc o1).alloc o2).alloc o3).drew.heap[W.heap.size + 1]? = some o2 ∧ (((W.alloc o1).alloc o2).alloc o3).drew.heap[W.heap.size + 1 + 1]? = some o3 := by
  obtain ⟨h1, _, h3⟩ := allocs_facts [o1, o2, o3] W
  exact ⟨⟨h1.os, h1.tape, h1.output, h1.size, h1.block⟩, h3 0 _ rfl, h3 1 _ rfl, h3 2 _ rfl⟩
set_option maxRecDepth 100000 in
set_option maxHeartbeats 12800000 in
theorem loops_any {w : World} {z : Int} : Calls Try.prog 6 #[.int .i64 z] w fun e w' => e = .returned (.bool true) ∧ Below w.heap.size w w' := by
  obtain ⟨iL, hiL, zL0, zL1, zL2⟩ := info_parts infoL
  obtain ⟨iR, hiR, zR0, zR1, zR2⟩ := info_parts infoR
  have CA := hide (alive_any (w := w))
  obtain ⟨r, hr⟩ : ∃ r, z.tmod 50 = r := ⟨_, rfl⟩
  have hr1 : -50 < r := by rw [← hr]; exact mod_pos.1
  have hr2 : r < 50 := by rw [← hr]; exact mod_pos.2
  go_enter Try.func6, Try.ntmps6
  go_upto_region 3 with (go_at_call 8; refine CA.out.mono ?_; rintro _ w1 ⟨rfl, hw1⟩; have HW1 := hide hw1; clear hw1)
  clear CA
  by_cases hneg : r < 0
  · go_upto_region 7 with fail
    obtain ⟨N, hN⟩ : ∃ N : Nat, -r + 1 = (N : Int) := ⟨(-r + 1).toNat, by omega⟩
    have hN1 : 1 ≤ N := by omega
    have hN2 : N ≤ 50 := by omega
    rw [hN]
    have hm4 := fun W => run_make_fix (P := Try.prog) Try.underlying22 hiL zL0 zL1 rfl N (by rw [zL2]; omega) (by unfold maxLen; omega) W
    clear hN hneg hr1 hr2 hr
    go_cut [3] from 20 to 25 (fun s wc => ∃ tb f bb, s = ptr tb ∧ Hid (Rb w1.heap.size N 0 tb f bb (fun _ => 0) none 0 wc) ∧ Hid (Below w1.heap.size w1 wc))
    case first =>
      go_region
      all_goals (go_wp2_with fail; go_meet)
      all_goals first | exact ⟨_, _, _, rfl, hide (Rb.start (alloc3 w1 _ _ _).2.1 (alloc3 w1 _ _ _).2.2.1 (alloc3 w1 _ _ _).2.2.2 (by omega)), hide (alloc3 w1 _ _ _).1⟩ | exact ⟨_, _, _, rfl, hide (Rb.start (alloc3 w1 _ _ _).2.1 (alloc3 w1 _ _ _).2.2.2 (alloc3 w1 _ _ _).2.2.1 (by omega)), hide (alloc3 w1 _ _ _).1⟩ | exact ⟨_, _, _, rfl, hide (Rb.start (alloc3 w1 _ _ _).2.2.1 (alloc3 w1 _ _ _).2.1 (alloc3 w1 _ _ _).2.2.2 (by omega)), hide (alloc3 w1 _ _ _).1⟩ | exact ⟨_, _, _, rfl, hide (Rb.start (alloc3 w1 _ _ _).2.2.1 (alloc3 w1 _ _ _).2.2.2 (alloc3 w1 _ _ _).2.1 (by omega)), hide (alloc3 w1 _ _ _).1⟩ | exact ⟨_, _, _, rfl, hide (Rb.start (alloc3 w1 _ _ _).2.2.2 (alloc3 w1 _ _ _).2.1 (alloc3 w1 _ _ _).2.2.1 (by omega)), hide (alloc3 w1 _ _ _).1⟩ | exact ⟨_, _, _, rfl, hide (Rb.start (alloc3 w1 _ _ _).2.2.2 (alloc3 w1 _ _ _).2.2.1 (alloc3 w1 _ _ _).2.1 (by omega)), hide (alloc3 w1 _ _ _).1⟩
    case rest =>
      obtain ⟨tb, f, bb, rfl, HR, HBc⟩ := hcut
      clear hm4
      go_upto_region 9 with fail
      go_loopw [4] (fun x wr => ∃ (k : Nat) (b : Nat → Nat) (ra : Option Addr) (rc : Nat), k ≤ N ∧ x = .int .i64 k ∧ Hid (Rb w1.heap.size N k tb f bb b ra rc wr) ∧ Hid (Below w1.heap.size w1 wr)) (fun x _ => N - (intOf x).toNat)
      case atStart => exact ⟨0, _, _, _, by omega, rfl, HR, HBc⟩
      case round =>
        clear HR HBc
        obtain ⟨k, b, ra, rc, hk, rfl, HR, HBr⟩ := hrel
        by_cases hlt : k < N
        · obtain ⟨hd, hhd⟩ : ∃ hd, (k + 1) % N = hd := ⟨_, rfl⟩
          have hrem : Int.tmod ((k : Int) + 1) (N : Int) = (hd : Int) := by rw [← hhd, show (k : Int) + 1 = ((k + 1 : Nat) : Int) by omega]; rfl
          have HHD := hide hhd
          clear hhd
          have hN0 : ¬ N = 0 := by omega
          have hwr : IntKind.i64.wrap ((k : Int) + 1) = (k : Int) + 1 := by rw [IntKind.wrap_i64]; omega
          have c2 := HR.out.bx.get (i := 2) rfl
          have hA1 := below_new wr (.cells #[.int .i64 k] 3)
          have hA2 := below_new (wr.alloc (.cells #[.int .i64 k] 3)) (.cells #[.int .i64 2, .int .i64 (hd : Int), .slice (some ⟨wr.heap.size, 0, none⟩) 1 1] 41)
          have hA := hA1.trans (hA2.mono hA1.size)
          have c2a := cell_on c2 hA1
          have c2b := cell_on c2 hA
          have HA := hide hA
          have HSA : Hid (((wr.alloc (.cells #[.int .i64 k] 3)).alloc (.cells #[.int .i64 2, .int .i64 (hd : Int), .slice (some ⟨wr.heap.size, 0, none⟩) 1 1] 41)).drew.heap.size = wr.heap.size + 2) := hide (by show ((wr.alloc (.cells #[.int .i64 k] 3)).alloc (.cells #[.int .i64 2, .int .i64 (hd : Int), .slice (some ⟨wr.heap.size, 0, none⟩) 1 1] 41)).heap.size = _; simp)
          have HNW : Hid (Fx wr.heap.size 3 (ints [(k : Int)]) ((wr.alloc (.cells #[.int .i64 k] 3)).alloc (.cells #[.int .i64 2, .int .i64 (hd : Int), .slice (some ⟨wr.heap.size, 0, none⟩) 1 1] 41))) := hide ((hA2.block _ (by simp)).trans (heap_alloc_new wr _))
          have HOM : Hid (((wr.alloc (.cells #[.int .i64 k] 3)).alloc (.cells #[.int .i64 2, .int .i64 (hd : Int), .slice (some ⟨wr.heap.size, 0, none⟩) 1 1] 41)).drew.ownsRow w1.heap.size 41 3 (.slice ra k rc) k (rcells N b k)) := hide (owns_keep HR.out.rl.own fun g e => hA.block g (owns_lt HR.out.rl.own e))
          have HNA : Hid (∀ j u, [.int .i64 2, .int .i64 (hd : Int), .slice (some ⟨wr.heap.size, 0, none⟩) 1 1][j]? = some u → ((wr.alloc (.cells #[.int .i64 k] 3)).alloc (.cells #[.int .i64 2, .int .i64 (hd : Int), .slice (some ⟨wr.heap.size, 0, none⟩) 1 1] 41)).drew.cell? ((⟨wr.heap.size + 1, 0, none⟩ : Addr).add j) = some u) := hide (by
            have := World.news_of_block (cs := [.int .i64 2, .int .i64 (hd : Int), .slice (some ⟨wr.heap.size, 0, none⟩) 1 1].toArray) (t := 41) (fr := (0, 0)) (heap_alloc_new (wr.alloc (.cells #[.int .i64 k] 3)) (.cells #[.int .i64 2, .int .i64 (hd : Int), .slice (some ⟨wr.heap.size, 0, none⟩) 1 1] 41))
            have hs : (wr.alloc (.cells #[.int .i64 k] 3)).heap.size = wr.heap.size + 1 := by simp
            rw [hs] at this
            exact this)
          have hbs : w1.heap.size ≤ wr.heap.size := HBr.out.size
          have HNT := hide (own_ne3 HR.out.rl.own HR.out.bx (by decide))
          clear hA1 hA2 hA
          go_upto_region 11 with fail
          go_region_law (refine step_append_lies _ (by rfl) _ _ _ (by rfl) w1.heap.size 41 iR _ 3 40 Try.underlying23 hiR zR0 zR1 zR2 rfl (by decide) (.slice ra k rc) k (rcells N b k) (by rfl) HOM.out ⟨wr.heap.size + 1, 0, none⟩ 1 1 [.int .i64 2, .int .i64 (hd : Int), .slice (some ⟨wr.heap.size, 0, none⟩) 1 1] (by rfl) rfl HNA.out (by intro u hu; simp at hu; rcases hu with rfl | rfl | rfl <;> rfl) (by decide) (by unfold maxLen; omega) (by omega) (by rw [HSA.out]; omega) (wr.heap.size + 2) HSA.out ?_; intro gg cap w5 hown hgrow hat hlt5; have f5 := HR.out.bx.keep (grown_old3 hgrow HA.out HR.out.bx.lt HNT.out); have q1 := f5.get (i := 2) rfl; have q2 := f5.frz 2; clear f5)
          all_goals
            have HR2 := hide (HR.out.add HA.out HNW.out hgrow hown HHD.out)
            have HB2 : Hid (Below w1.heap.size w1 (w5.setCell ⟨tb, 2, none⟩ (.slice (some ⟨gg, 0, none⟩) (k + 1) cap))) := hide ((HBr.out.trans ((HA.out.mono hbs).trans ⟨hgrow.os, hgrow.tape, hgrow.output, hgrow.size, fun g hg => hgrow.block g (by rw [HSA.out]; omega) fun e => by have := (HR.out.rl.own.lt g e.symm).1; omega⟩)).setCell (p := ⟨tb, 2, none⟩) HR.out.lo _)
            clear hown hgrow hat hlt5 q1 q2 c2 c2a c2b HR HBr HA HSA HNW HOM HNA HNT HHD hrem hN0 hwr
            generalize w5.setCell ⟨tb, 2, none⟩ (.slice (some ⟨gg, 0, none⟩) (k + 1) cap) = w6 at *
            go_wp2_with fail
            go_roundw
            case rel => exact ⟨k + 1, _, _, _, by omega, by go_num, HR2, HB2⟩
            case measure => simp [intOf]; omega
        · have hkn : k = N := by omega
          subst hkn
          clear hlt hk
          have HF1 := hide (ring_fine hN1 hN2)
          have HNI : Hid (∀ X : World, Ints X.heap.size X ([] : List Int) (.slice none ([] : List Int).length 0)) := hide fun X => RR.none
          have CS1 : Hid (Calls Try.prog 9 #[.agg #[.int .i64 k, .slice (some ⟨f, 0, none⟩) k k, .slice ra k rc, .slice (some ⟨bb, 0, none⟩) k k], .slice none 0 0] wr fun e w' => ∃ va vc, e = .returned (.tuple #[.slice va k vc, .int .i64 0]) ∧ Hid (w'.ownsRow wr.heap.size 36 1 (.slice va k vc) k (u8s (chn k 0))) ∧ Hid (Below wr.heap.size wr w')) := hide (by
            have := Solve_ok (HR.out.ta hN2 (Below.refl _ _)) (HNI.out wr) HF1.out.1
            rw [show tv (ringT k k) (some ⟨f, 0, none⟩) k ra rc (some ⟨bb, 0, none⟩) k = .agg #[.int .i64 k, .slice (some ⟨f, 0, none⟩) k k, .slice ra k rc, .slice (some ⟨bb, 0, none⟩) k k] from by
              show Value.agg #[.int .i64 k, .slice (some ⟨f, 0, none⟩) (List.replicate k ([] : List Int)).length k, .slice ra (ringR k k).length rc, .slice (some ⟨bb, 0, none⟩) (List.replicate k ([] : List Int)).length k] = _
              rw [List.length_replicate, ring_len]] at this
            refine this.mono ?_
            rintro e w' ⟨v, l, i, h1, h2, h3, h4⟩
            have := sol_one h2 (ring_sol hN1)
            subst this
            have h5 : w'.ownsRow wr.heap.size 36 1 v k (u8s (chn k 0)) := h3
            obtain ⟨va, vc, rfl⟩ := owns_slice h5
            exact ⟨va, vc, h1, hide h5, hide h4⟩)
          obtain ⟨-, c0, c1, c2, c3⟩ := Bt.of HR.out.bx
          go_upto_region 13 with (go_at_call 9; refine CS1.out.mono ?_; rintro _ w2 ⟨va, vc, rfl, HV, HW2⟩)
          clear c0 c1 c2 c3 CS1
          have HX2 := hide ((HW2.out.block _ HR.out.bx.lt).trans HR.out.bx)
          obtain ⟨j, hj⟩ : ∃ j : Nat, (k : Int) - 1 = (j : Int) ∧ k - 1 = j ∧ j ≤ k := ⟨k - 1, by omega, rfl, by omega⟩
          obtain ⟨hj1, hj2, hj3⟩ := hj
          have hjw : IntKind.i64.wrap ((k : Int) - 1) = (j : Int) := by rw [hj1, IntKind.wrap_i64]; omega
          have hrcj : k ≤ rc := by
            rcases HR.out.rl.own.2 with ⟨_, e⟩ | ⟨_, _, _, e, _, _, hle, _⟩
            · omega
            · cases e; exact hle
          obtain ⟨-, c0, c1, c2, c3⟩ := Bt.of HX2.out
          have f2 : w2.frozen? ⟨tb, 2, none⟩ = false := frozen_of_row _ _ 2 _ _ HX2.out
          clear c0 c1 c3
          go_upto_region 14 with fail
          clear c2 f2
          have HX3 := hide (loc_set (i := 2) (v := .slice ra j rc) HX2.out)
          have HO3 : Hid (∀ g, g ≠ tb → (w2.setCell ⟨tb, 2, none⟩ (.slice ra j rc)).heap[g]? = w2.heap[g]?) := hide fun g hg => other_set hg
          have HS3 : Hid ((w2.setCell ⟨tb, 2, none⟩ (.slice ra j rc)).heap.size = w2.heap.size) := hide (by simp)
          have HB3 : Hid (Below w1.heap.size w1 (w2.setCell ⟨tb, 2, none⟩ (.slice ra j rc))) := hide ((HBr.out.trans (HW2.out.mono HBr.out.size)).setCell (p := ⟨tb, 2, none⟩) HR.out.lo _)
          generalize w2.setCell ⟨tb, 2, none⟩ (.slice ra j rc) = w3 at *
          change Hid (w3.heap[tb]? = some (.cells #[.int .i64 k, .slice (some ⟨f, 0, none⟩) k k, .slice ra j rc, .slice (some ⟨bb, 0, none⟩) k k] 25 (0, 0))) at HX3
          obtain ⟨-, c0, c1, c2, c3⟩ := Bt.of HX3.out
          have f3 : w3.frozen? ⟨tb, 3, none⟩ = false := frozen_of_row _ _ 3 _ _ HX3.out
          clear c0 c1 c2
          go_upto_region 15 with fail
          clear c3 f3
          have HX4 := hide (loc_set (i := 3) (v := .slice (some ⟨bb, 0, none⟩) j k) HX3.out)
          have HO4 : Hid (∀ g, g ≠ tb → (w3.setCell ⟨tb, 3, none⟩ (.slice (some ⟨bb, 0, none⟩) j k)).heap[g]? = w2.heap[g]?) := hide fun g hg => (other_set hg).trans (HO3.out g hg)
          have HS4 : Hid ((w3.setCell ⟨tb, 3, none⟩ (.slice (some ⟨bb, 0, none⟩) j k)).heap.size = w2.heap.size) := hide (by rw [← HS3.out]; simp)
          have HB4 := hide (HB3.out.setCell (p := ⟨tb, 3, none⟩) HR.out.lo (.slice (some ⟨bb, 0, none⟩) j k))
          generalize w3.setCell ⟨tb, 3, none⟩ (.slice (some ⟨bb, 0, none⟩) j k) = w4 at *
          change Hid (w4.heap[tb]? = some (.cells #[.int .i64 k, .slice (some ⟨f, 0, none⟩) k k, .slice ra j rc, .slice (some ⟨bb, 0, none⟩) j k] 25 (0, 0))) at HX4
          have HV4 := hide (owns_keep HV.out fun g e => HO4.out g fun e2 => own_fx HV.out (show Fx tb 25 [.int .i64 k, .slice (some ⟨f, 0, none⟩) k k, .slice ra k rc, .slice (some ⟨bb, 0, none⟩) k k] w2 from HX2.out) (by decide) (e2 ▸ e))
          have CS2 : Hid (Calls Try.prog 9 #[.agg #[.int .i64 k, .slice (some ⟨f, 0, none⟩) k k, .slice ra j rc, .slice (some ⟨bb, 0, none⟩) j k], .slice none 0 0] w4 fun e w' => ∃ va vc, e = .returned (.tuple #[.slice va k vc, .int .i64 0]) ∧ Hid (w'.ownsRow w4.heap.size 36 1 (.slice va k vc) k (u8s (chn k k))) ∧ Hid (Below w4.heap.size w4 w')) := hide (by
            have hta := HR.out.ta2 (w' := w4) hN2 (fun g hg hne => (HO4.out g hne).trans (HW2.out.block g hg))
            have := Solve_ok hta (HNI.out w4) HF1.out.2
            rw [hj2] at this
            rw [show tv (ringT k j) (some ⟨f, 0, none⟩) k ra rc (some ⟨bb, 0, none⟩) k = .agg #[.int .i64 k, .slice (some ⟨f, 0, none⟩) k k, .slice ra j rc, .slice (some ⟨bb, 0, none⟩) j k] from by
              show Value.agg #[.int .i64 k, .slice (some ⟨f, 0, none⟩) (List.replicate k ([] : List Int)).length k, .slice ra (ringR k j).length rc, .slice (some ⟨bb, 0, none⟩) (List.replicate j ([] : List Int)).length k] = _
              rw [List.length_replicate, List.length_replicate, ring_len]] at this
            refine this.mono ?_
            rintro e w' ⟨v, l, i, h1, h2, h3, h4⟩
            have h6 := chain_sol (n := k)
            rw [hj2] at h6
            have := sol_one h2 h6
            subst this
            have h5 : w'.ownsRow w4.heap.size 36 1 v k (u8s (chn k k)) := h3
            obtain ⟨va, vc, rfl⟩ := owns_slice h5
            exact ⟨va, vc, h1, hide h5, hide h4⟩)
          obtain ⟨-, c0, c1, c2, c3⟩ := Bt.of HX4.out
          go_upto_region 16 with (go_at_call 9; refine CS2.out.mono ?_; rintro _ w5 ⟨ua, uc, rfl, HU, HW5⟩)
          clear c0 c1 c2 c3 CS2
          have CN := hide fun X : World => num_still X 0
          have HV5 := hide (owns_keep HV4.out fun g e => HW5.out.block g (owns_lt HV4.out e))
          have HBF := hide (HW1.out.trans ((HB4.out.trans (HW5.out.mono HB4.out.size)).mono HW1.out.size))
          clear HX2 HX3 HX4 HO3 HO4 HS3 HS4 HB3 HB4 HV HV4 HW2 HW5 HR HBr HF1 HNI hj1 hj2 hj3 hjw hrcj
          go_upto_region 19 with (go_at_call 10; refine (CN.out _).mono ?_; rintro _ w6 ⟨rfl, rfl⟩)
          clear CN
          go_loop [9] (fun x => ∃ i : Nat, i ≤ k ∧ x = .int .i64 i) (fun x => k - (intOf x).toNat)
          case atStart => exact ⟨0, by omega, rfl⟩
          case round =>
            obtain ⟨i, hi, rfl⟩ := hrel
            by_cases hlt : i < k
            · obtain ⟨g1, o1, rfl, a0⟩ := owns_at1 HV5.out i _ (u8s_at (by rw [chn_len]; exact hlt))
              obtain ⟨g2, o2, rfl, b0⟩ := owns_at1 HU.out i _ (u8s_at (by rw [chn_len]; exact hlt))
              rw [chn_at hlt, if_neg (Nat.not_lt_zero i)] at a0
              rw [chn_at hlt, if_pos hlt] at b0
              go_wp2_with fail
              go_round
              case rel => exact ⟨i + 1, by omega, by go_num⟩
              case measure => simp [intOf]; omega
            · go_wp2_with fail
              go_ret
              exact ⟨rfl, HBF.out⟩
  · go_upto_region 7 with fail
    obtain ⟨N, hN⟩ : ∃ N : Nat, r + 1 = (N : Int) := ⟨(r + 1).toNat, by omega⟩
    have hN1 : 1 ≤ N := by omega
    have hN2 : N ≤ 50 := by omega
    rw [hN]
    have hm4 := fun W => run_make_fix (P := Try.prog) Try.underlying22 hiL zL0 zL1 rfl N (by rw [zL2]; omega) (by unfold maxLen; omega) W
    clear hN hneg hr1 hr2 hr
    go_cut [3] from 20 to 25 (fun s wc => ∃ tb f bb, s = ptr tb ∧ Hid (Rb w1.heap.size N 0 tb f bb (fun _ => 0) none 0 wc) ∧ Hid (Below w1.heap.size w1 wc))
    case first =>
      go_region
      all_goals (go_wp2_with fail; go_meet)
      all_goals first | exact ⟨_, _, _, rfl, hide (Rb.start (alloc3 w1 _ _ _).2.1 (alloc3 w1 _ _ _).2.2.1 (alloc3 w1 _ _ _).2.2.2 (by omega)), hide (alloc3 w1 _ _ _).1⟩ | exact ⟨_, _, _, rfl, hide (Rb.start (alloc3 w1 _ _ _).2.1 (alloc3 w1 _ _ _).2.2.2 (alloc3 w1 _ _ _).2.2.1 (by omega)), hide (alloc3 w1 _ _ _).1⟩ | exact ⟨_, _, _, rfl, hide (Rb.start (alloc3 w1 _ _ _).2.2.1 (alloc3 w1 _ _ _).2.1 (alloc3 w1 _ _ _).2.2.2 (by omega)), hide (alloc3 w1 _ _ _).1⟩ | exact ⟨_, _, _, rfl, hide (Rb.start (alloc3 w1 _ _ _).2.2.1 (alloc3 w1 _ _ _).2.2.2 (alloc3 w1 _ _ _).2.1 (by omega)), hide (alloc3 w1 _ _ _).1⟩ | exact ⟨_, _, _, rfl, hide (Rb.start (alloc3 w1 _ _ _).2.2.2 (alloc3 w1 _ _ _).2.1 (alloc3 w1 _ _ _).2.2.1 (by omega)), hide (alloc3 w1 _ _ _).1⟩ | exact ⟨_, _, _, rfl, hide (Rb.start (alloc3 w1 _ _ _).2.2.2 (alloc3 w1 _ _ _).2.2.1 (alloc3 w1 _ _ _).2.1 (by omega)), hide (alloc3 w1 _ _ _).1⟩
    case rest =>
      obtain ⟨tb, f, bb, rfl, HR, HBc⟩ := hcut
      clear hm4
      go_upto_region 9 with fail
      go_loopw [4] (fun x wr => ∃ (k : Nat) (b : Nat → Nat) (ra : Option Addr) (rc : Nat), k ≤ N ∧ x = .int .i64 k ∧ Hid (Rb w1.heap.size N k tb f bb b ra rc wr) ∧ Hid (Below w1.heap.size w1 wr)) (fun x _ => N - (intOf x).toNat)
      case atStart => exact ⟨0, _, _, _, by omega, rfl, HR, HBc⟩
      case round =>
        clear HR HBc
        obtain ⟨k, b, ra, rc, hk, rfl, HR, HBr⟩ := hrel
        by_cases hlt : k < N
        · obtain ⟨hd, hhd⟩ : ∃ hd, (k + 1) % N = hd := ⟨_, rfl⟩
          have hrem : Int.tmod ((k : Int) + 1) (N : Int) = (hd : Int) := by rw [← hhd, show (k : Int) + 1 = ((k + 1 : Nat) : Int) by omega]; rfl
          have HHD := hide hhd
          clear hhd
          have hN0 : ¬ N = 0 := by omega
          have hwr : IntKind.i64.wrap ((k : Int) + 1) = (k : Int) + 1 := by rw [IntKind.wrap_i64]; omega
          have c2 := HR.out.bx.get (i := 2) rfl
          have hA1 := below_new wr (.cells #[.int .i64 k] 3)
          have hA2 := below_new (wr.alloc (.cells #[.int .i64 k] 3)) (.cells #[.int .i64 2, .int .i64 (hd : Int), .slice (some ⟨wr.heap.size, 0, none⟩) 1 1] 41)
          have hA := hA1.trans (hA2.mono hA1.size)
          have c2a := cell_on c2 hA1
          have c2b := cell_on c2 hA
          have HA := hide hA
          have HSA : Hid (((wr.alloc (.cells #[.int .i64 k] 3)).alloc (.cells #[.int .i64 2, .int .i64 (hd : Int), .slice (some ⟨wr.heap.size, 0, none⟩) 1 1] 41)).drew.heap.size = wr.heap.size + 2) := hide (by show ((wr.alloc (.cells #[.int .i64 k] 3)).alloc (.cells #[.int .i64 2, .int .i64 (hd : Int), .slice (some ⟨wr.heap.size, 0, none⟩) 1 1] 41)).heap.size = _; simp)
          have HNW : Hid (Fx wr.heap.size 3 (ints [(k : Int)]) ((wr.alloc (.cells #[.int .i64 k] 3)).alloc (.cells #[.int .i64 2, .int .i64 (hd : Int), .slice (some ⟨wr.heap.size, 0, none⟩) 1 1] 41))) := hide ((hA2.block _ (by simp)).trans (heap_alloc_new wr _))
          have HOM : Hid (((wr.alloc (.cells #[.int .i64 k] 3)).alloc (.cells #[.int .i64 2, .int .i64 (hd : Int), .slice (some ⟨wr.heap.size, 0, none⟩) 1 1] 41)).drew.ownsRow w1.heap.size 41 3 (.slice ra k rc) k (rcells N b k)) := hide (owns_keep HR.out.rl.own fun g e => hA.block g (owns_lt HR.out.rl.own e))
          have HNA : Hid (∀ j u, [.int .i64 2, .int .i64 (hd : Int), .slice (some ⟨wr.heap.size, 0, none⟩) 1 1][j]? = some u → ((wr.alloc (.cells #[.int .i64 k] 3)).alloc (.cells #[.int .i64 2, .int .i64 (hd : Int), .slice (some ⟨wr.heap.size, 0, none⟩) 1 1] 41)).drew.cell? ((⟨wr.heap.size + 1, 0, none⟩ : Addr).add j) = some u) := hide (by
            have := World.news_of_block (cs := [.int .i64 2, .int .i64 (hd : Int), .slice (some ⟨wr.heap.size, 0, none⟩) 1 1].toArray) (t := 41) (fr := (0, 0)) (heap_alloc_new (wr.alloc (.cells #[.int .i64 k] 3)) (.cells #[.int .i64 2, .int .i64 (hd : Int), .slice (some ⟨wr.heap.size, 0, none⟩) 1 1] 41))
            have hs : (wr.alloc (.cells #[.int .i64 k] 3)).heap.size = wr.heap.size + 1 := by simp
            rw [hs] at this
            exact this)
          have hbs : w1.heap.size ≤ wr.heap.size := HBr.out.size
          have HNT := hide (own_ne3 HR.out.rl.own HR.out.bx (by decide))
          clear hA1 hA2 hA
          go_upto_region 11 with fail
          go_region_law (refine step_append_lies _ (by rfl) _ _ _ (by rfl) w1.heap.size 41 iR _ 3 40 Try.underlying23 hiR zR0 zR1 zR2 rfl (by decide) (.slice ra k rc) k (rcells N b k) (by rfl) HOM.out ⟨wr.heap.size + 1, 0, none⟩ 1 1 [.int .i64 2, .int .i64 (hd : Int), .slice (some ⟨wr.heap.size, 0, none⟩) 1 1] (by rfl) rfl HNA.out (by intro u hu; simp at hu; rcases hu with rfl | rfl | rfl <;> rfl) (by decide) (by unfold maxLen; omega) (by omega) (by rw [HSA.out]; omega) (wr.heap.size + 2) HSA.out ?_; intro gg cap w5 hown hgrow hat hlt5; have f5 := HR.out.bx.keep (grown_old3 hgrow HA.out HR.out.bx.lt HNT.out); have q1 := f5.get (i := 2) rfl; have q2 := f5.frz 2; clear f5)
          all_goals
            have HR2 := hide (HR.out.add HA.out HNW.out hgrow hown HHD.out)
            have HB2 : Hid (Below w1.heap.size w1 (w5.setCell ⟨tb, 2, none⟩ (.slice (some ⟨gg, 0, none⟩) (k + 1) cap))) := hide ((HBr.out.trans ((HA.out.mono hbs).trans ⟨hgrow.os, hgrow.tape, hgrow.output, hgrow.size, fun g hg => hgrow.block g (by rw [HSA.out]; omega) fun e => by have := (HR.out.rl.own.lt g e.symm).1; omega⟩)).setCell (p := ⟨tb, 2, none⟩) HR.out.lo _)
            clear hown hgrow hat hlt5 q1 q2 c2 c2a c2b HR HBr HA HSA HNW HOM HNA HNT HHD hrem hN0 hwr
            generalize w5.setCell ⟨tb, 2, none⟩ (.slice (some ⟨gg, 0, none⟩) (k + 1) cap) = w6 at *
            go_wp2_with fail
            go_roundw
            case rel => exact ⟨k + 1, _, _, _, by omega, by go_num, HR2, HB2⟩
            case measure => simp [intOf]; omega
        · have hkn : k = N := by omega
          subst hkn
          clear hlt hk
          have HF1 := hide (ring_fine hN1 hN2)
          have HNI : Hid (∀ X : World, Ints X.heap.size X ([] : List Int) (.slice none ([] : List Int).length 0)) := hide fun X => RR.none
          have CS1 : Hid (Calls Try.prog 9 #[.agg #[.int .i64 k, .slice (some ⟨f, 0, none⟩) k k, .slice ra k rc, .slice (some ⟨bb, 0, none⟩) k k], .slice none 0 0] wr fun e w' => ∃ va vc, e = .returned (.tuple #[.slice va k vc, .int .i64 0]) ∧ Hid (w'.ownsRow wr.heap.size 36 1 (.slice va k vc) k (u8s (chn k 0))) ∧ Hid (Below wr.heap.size wr w')) := hide (by
            have := Solve_ok (HR.out.ta hN2 (Below.refl _ _)) (HNI.out wr) HF1.out.1
            rw [show tv (ringT k k) (some ⟨f, 0, none⟩) k ra rc (some ⟨bb, 0, none⟩) k = .agg #[.int .i64 k, .slice (some ⟨f, 0, none⟩) k k, .slice ra k rc, .slice (some ⟨bb, 0, none⟩) k k] from by
              show Value.agg #[.int .i64 k, .slice (some ⟨f, 0, none⟩) (List.replicate k ([] : List Int)).length k, .slice ra (ringR k k).length rc, .slice (some ⟨bb, 0, none⟩) (List.replicate k ([] : List Int)).length k] = _
              rw [List.length_replicate, ring_len]] at this
            refine this.mono ?_
            rintro e w' ⟨v, l, i, h1, h2, h3, h4⟩
            have := sol_one h2 (ring_sol hN1)
            subst this
            have h5 : w'.ownsRow wr.heap.size 36 1 v k (u8s (chn k 0)) := h3
            obtain ⟨va, vc, rfl⟩ := owns_slice h5
            exact ⟨va, vc, h1, hide h5, hide h4⟩)
          obtain ⟨-, c0, c1, c2, c3⟩ := Bt.of HR.out.bx
          go_upto_region 13 with (go_at_call 9; refine CS1.out.mono ?_; rintro _ w2 ⟨va, vc, rfl, HV, HW2⟩)
          clear c0 c1 c2 c3 CS1
          have HX2 := hide ((HW2.out.block _ HR.out.bx.lt).trans HR.out.bx)
          obtain ⟨j, hj⟩ : ∃ j : Nat, (k : Int) - 1 = (j : Int) ∧ k - 1 = j ∧ j ≤ k := ⟨k - 1, by omega, rfl, by omega⟩
          obtain ⟨hj1, hj2, hj3⟩ := hj
          have hjw : IntKind.i64.wrap ((k : Int) - 1) = (j : Int) := by rw [hj1, IntKind.wrap_i64]; omega
          have hrcj : k ≤ rc := by
            rcases HR.out.rl.own.2 with ⟨_, e⟩ | ⟨_, _, _, e, _, _, hle, _⟩
            · omega
            · cases e; exact hle
          obtain ⟨-, c0, c1, c2, c3⟩ := Bt.of HX2.out
          have f2 : w2.frozen? ⟨tb, 2, none⟩ = false := frozen_of_row _ _ 2 _ _ HX2.out
          clear c0 c1 c3
          go_upto_region 14 with fail
          clear c2 f2
          have HX3 := hide (loc_set (i := 2) (v := .slice ra j rc) HX2.out)
          have HO3 : Hid (∀ g, g ≠ tb → (w2.setCell ⟨tb, 2, none⟩ (.slice ra j rc)).heap[g]? = w2.heap[g]?) := hide fun g hg => other_set hg
          have HS3 : Hid ((w2.setCell ⟨tb, 2, none⟩ (.slice ra j rc)).heap.size = w2.heap.size) := hide (by simp)
          have HB3 : Hid (Below w1.heap.size w1 (w2.setCell ⟨tb, 2, none⟩ (.slice ra j rc))) := hide ((HBr.out.trans (HW2.out.mono HBr.out.size)).setCell (p := ⟨tb, 2, none⟩) HR.out.lo _)
          generalize w2.setCell ⟨tb, 2, none⟩ (.slice ra j rc) = w3 at *
          change Hid (w3.heap[tb]? = some (.cells #[.int .i64 k, .slice (some ⟨f, 0, none⟩) k k, .slice ra j rc, .slice (some ⟨bb, 0, none⟩) k k] 25 (0, 0))) at HX3
          obtain ⟨-, c0, c1, c2, c3⟩ := Bt.of HX3.out
          have f3 : w3.frozen? ⟨tb, 3, none⟩ = false := frozen_of_row _ _ 3 _ _ HX3.out
          clear c0 c1 c2
          go_upto_region 15 with fail
          clear c3 f3
          have HX4 := hide (loc_set (i := 3) (v := .slice (some ⟨bb, 0, none⟩) j k) HX3.out)
          have HO4 : Hid (∀ g, g ≠ tb → (w3.setCell ⟨tb, 3, none⟩ (.slice (some ⟨bb, 0, none⟩) j k)).heap[g]? = w2.heap[g]?) := hide fun g hg => (other_set hg).trans (HO3.out g hg)
          have HS4 : Hid ((w3.setCell ⟨tb, 3, none⟩ (.slice (some ⟨bb, 0, none⟩) j k)).heap.size = w2.heap.size) := hide (by rw [← HS3.out]; simp)
          have HB4 := hide (HB3.out.setCell (p := ⟨tb, 3, none⟩) HR.out.lo (.slice (some ⟨bb, 0, none⟩) j k))
          generalize w3.setCell ⟨tb, 3, none⟩ (.slice (some ⟨bb, 0, none⟩) j k) = w4 at *
          change Hid (w4.heap[tb]? = some (.cells #[.int .i64 k, .slice (some ⟨f, 0, none⟩) k k, .slice ra j rc, .slice (some ⟨bb, 0, none⟩) j k] 25 (0, 0))) at HX4
          have HV4 := hide (owns_keep HV.out fun g e => HO4.out g fun e2 => own_fx HV.out (show Fx tb 25 [.int .i64 k, .slice (some ⟨f, 0, none⟩) k k, .slice ra k rc, .slice (some ⟨bb, 0, none⟩) k k] w2 from HX2.out) (by decide) (e2 ▸ e))
          have CS2 : Hid (Calls Try.prog 9 #[.agg #[.int .i64 k, .slice (some ⟨f, 0, none⟩) k k, .slice ra j rc, .slice (some ⟨bb, 0, none⟩) j k], .slice none 0 0] w4 fun e w' => ∃ va vc, e = .returned (.tuple #[.slice va k vc, .int .i64 0]) ∧ Hid (w'.ownsRow w4.heap.size 36 1 (.slice va k vc) k (u8s (chn k k))) ∧ Hid (Below w4.heap.size w4 w')) := hide (by
            have hta := HR.out.ta2 (w' := w4) hN2 (fun g hg hne => (HO4.out g hne).trans (HW2.out.block g hg))
            have := Solve_ok hta (HNI.out w4) HF1.out.2
            rw [hj2] at this
            rw [show tv (ringT k j) (some ⟨f, 0, none⟩) k ra rc (some ⟨bb, 0, none⟩) k = .agg #[.int .i64 k, .slice (some ⟨f, 0, none⟩) k k, .slice ra j rc, .slice (some ⟨bb, 0, none⟩) j k] from by
              show Value.agg #[.int .i64 k, .slice (some ⟨f, 0, none⟩) (List.replicate k ([] : List Int)).length k, .slice ra (ringR k j).length rc, .slice (some ⟨bb, 0, none⟩) (List.replicate j ([] : List Int)).length k] = _
              rw [List.length_replicate, List.length_replicate, ring_len]] at this
            refine this.mono ?_
            rintro e w' ⟨v, l, i, h1, h2, h3, h4⟩
            have h6 := chain_sol (n := k)
            rw [hj2] at h6
            have := sol_one h2 h6
            subst this
            have h5 : w'.ownsRow w4.heap.size 36 1 v k (u8s (chn k k)) := h3
            obtain ⟨va, vc, rfl⟩ := owns_slice h5
            exact ⟨va, vc, h1, hide h5, hide h4⟩)
          obtain ⟨-, c0, c1, c2, c3⟩ := Bt.of HX4.out
          go_upto_region 16 with (go_at_call 9; refine CS2.out.mono ?_; rintro _ w5 ⟨ua, uc, rfl, HU, HW5⟩)
          clear c0 c1 c2 c3 CS2
          have CN := hide fun X : World => num_still X 0
          have HV5 := hide (owns_keep HV4.out fun g e => HW5.out.block g (owns_lt HV4.out e))
          have HBF := hide (HW1.out.trans ((HB4.out.trans (HW5.out.mono HB4.out.size)).mono HW1.out.size))
          clear HX2 HX3 HX4 HO3 HO4 HS3 HS4 HB3 HB4 HV HV4 HW2 HW5 HR HBr HF1 HNI hj1 hj2 hj3 hjw hrcj
          go_upto_region 19 with (go_at_call 10; refine (CN.out _).mono ?_; rintro _ w6 ⟨rfl, rfl⟩)
          clear CN
          go_loop [9] (fun x => ∃ i : Nat, i ≤ k ∧ x = .int .i64 i) (fun x => k - (intOf x).toNat)
          case atStart => exact ⟨0, by omega, rfl⟩
          case round =>
            obtain ⟨i, hi, rfl⟩ := hrel
            by_cases hlt : i < k
            · obtain ⟨g1, o1, rfl, a0⟩ := owns_at1 HV5.out i _ (u8s_at (by rw [chn_len]; exact hlt))
              obtain ⟨g2, o2, rfl, b0⟩ := owns_at1 HU.out i _ (u8s_at (by rw [chn_len]; exact hlt))
              rw [chn_at hlt, if_neg (Nat.not_lt_zero i)] at a0
              rw [chn_at hlt, if_pos hlt] at b0
              go_wp2_with fail
              go_round
              case rel => exact ⟨i + 1, by omega, by go_num⟩
              case measure => simp [intOf]; omega
            · go_wp2_with fail
              go_ret
              exact ⟨rfl, HBF.out⟩
end Go.Proofs.Ytbnkdfhjdjgnhaa
