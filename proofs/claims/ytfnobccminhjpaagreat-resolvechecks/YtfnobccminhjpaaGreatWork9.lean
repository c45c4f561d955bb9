/- The law's own trial of the program: works. -/
import Derived.Test.YtfnobccminhjpaaGreatVars9
import Derived.Deep.RegionLaw
namespace Go.Proofs.YtfnobccminhjpaaGreat
open Go.RowKit Go.Shelf Go.Maps Go.WideMaps

theorem num_any (c : Int) (w : World) : Calls Tryz.prog 12 #[.int .i64 c] w fun e w' => e = .returned (.int .i64 c) ∧ w' = w := by
  go_enter Tryz.func12, Tryz.ntmps12
  go_wp2_with fail
  go_ret
  exact ⟨rfl, rfl⟩
theorem infoPr : (Tryz.prog.info? 123).map (fun i => (i.zero, i.size, i.bytes)) = some (some (.agg #[.int .i64 0, .bool false, .string ⟨#[]⟩, .slice none 0 0, .bool false, .int .i64 0, .slice none 0 0, .int .i64 0, .slice none 0 0, .string ⟨#[]⟩, .string ⟨#[]⟩]), 11, 160) := by kernel_rfl
def premW2 : List Value := [.int .i64 3, .bool false, str [], .slice none 0 0, .bool false, .int .i64 0, .slice none 0 0, .int .i64 0, .slice none 0 0, str bX, str bY]

/-- What stays from call to call: the statute's box and its blocks. -/
structure Wk (n : Nat) (bv : Value) (m : Nat) (xs : List Value) (w w' : World) : Prop where
  low : Below n w w'
  sm : SmH n bv w'
  box : w'.heap[n + 10]? = some (.cells #[.string ⟨#[]⟩, sl (n + 3), sl (n + 4), sl (n + 6), .slice none 0 0, sl (n + 7), sl (n + 9), .slice none 0 0, .slice none 0 0] 31 (0, 0))
  size : n + 11 ≤ w'.heap.size
  row : w'.ownsRow 0 123 11 bv m xs
section
variable {n m : Nat} {bv : Value} {xs : List Value} {w w' w'' : World}
theorem Wk.below (h : Wk n bv m xs w w') (hb : Below w'.heap.size w' w'') : Wk n bv m xs w w'' :=
  ⟨h.low.trans (hb.mono (by have := h.size; omega)), h.sm.keep fun g hg => hb.block g (by have := h.size; omega), (hb.block _ (by have := h.size; omega)).trans h.box, Nat.le_trans h.size hb.size, owns_keep h.row fun g hg => hb.block g (owns_lt h.row hg)⟩
theorem Wk.cells (h : Wk n bv m xs w w') : w'.cell? ⟨n + 10, 0, none⟩ = some (.string ⟨#[]⟩) ∧ w'.cell? ⟨n + 10, 1, none⟩ = some (sl (n + 3)) ∧ w'.cell? ⟨n + 10, 2, none⟩ = some (sl (n + 4)) ∧ w'.cell? ⟨n + 10, 3, none⟩ = some (sl (n + 6)) ∧ w'.cell? ⟨n + 10, 4, none⟩ = some (.slice none 0 0) ∧ w'.cell? ⟨n + 10, 5, none⟩ = some (sl (n + 7)) ∧ w'.cell? ⟨n + 10, 6, none⟩ = some (sl (n + 9)) ∧ w'.cell? ⟨n + 10, 7, none⟩ = some (.slice none 0 0) ∧ w'.cell? ⟨n + 10, 8, none⟩ = some (.slice none 0 0) :=
  ⟨cell_of_row w' _ 0 _ _ _ h.box, cell_of_row w' _ 1 _ _ _ h.box, cell_of_row w' _ 2 _ _ _ h.box, cell_of_row w' _ 3 _ _ _ h.box, cell_of_row w' _ 4 _ _ _ h.box, cell_of_row w' _ 5 _ _ _ h.box, cell_of_row w' _ 6 _ _ _ h.box, cell_of_row w' _ 7 _ _ _ h.box, cell_of_row w' _ 8 _ _ _ h.box⟩
theorem Wk.one (h : Wk n bv 1 (premW n) w w') : SR w'.heap.size w' (smallM [prem1]) (smSt n) := by
  have hz := h.size
  refine h.sm.rep (by omega) (RR.of_owns h.row (Nat.le_refl _) (by decide) fun i x hi => ?_)
  match i, hi with
  | 0, hi => cases hi; exact h.sm.prem (by omega)
theorem Wk.two (h : Wk n bv 2 (premW n ++ premW2) w w') : SR w'.heap.size w' (smallM [prem1, prem2]) (smSt n) := by
  have hz := h.size
  refine h.sm.rep (by omega) (RR.of_owns h.row (Nat.le_refl _) (by decide) fun i x hi => ?_)
  match i, hi with
  | 0, hi => cases hi; exact h.sm.prem (by omega)
  | 1, hi => cases hi; exact ⟨[.bool false, str [], .slice none 0 0, .bool false, .int .i64 0], _, rfl, ⟨_, rfl, by decide, RR.none⟩, cGuard_none, by decide, by decide⟩
theorem Wk.grow {W w5 : World} {gg cap H : Nat} (h : Wk n (sl (n + 8)) 1 (premW n) w W) (hown : w5.ownsRow 0 123 11 (.slice (some ⟨gg, 0, none⟩) 2 cap) 2 (premW n ++ premW2)) (hg : W.grownBy w5 (some (n + 8))) (hat : some (n + 8) = some gg ∨ gg = H) (hH : n + 11 ≤ H) :
    Wk n (.slice (some ⟨gg, 0, none⟩) 2 cap) 2 (premW n ++ premW2) w (w5.setCell ⟨n + 9, 4, none⟩ (.slice (some ⟨gg, 0, none⟩) 2 cap)) := by
  have hz := h.size
  have hfr : Fr (fun k => k = n + 8) W w5 := .of_grown hg fun k e => by cases e; rfl
  have ho : ∀ k, k ≠ n + 9 → (w5.setCell ⟨n + 9, 4, none⟩ (.slice (some ⟨gg, 0, none⟩) 2 cap)).heap[k]? = w5.heap[k]? := fun k hk => heap_setCell_other w5 ⟨n + 9, 4, none⟩ k _ hk
  have hb : ∀ k, k < n + 11 → k ≠ n + 8 → w5.heap[k]? = W.heap[k]? := fun k hk hn => hfr.block k (by omega) hn
  have h9 := loc_set (i := 4) (v := .slice (some ⟨gg, 0, none⟩) 2 cap) ((hb (n + 9) (by omega) (by omega)).trans h.sm.b9)
  refine ⟨?_, ⟨?_, ?_, ?_, ?_, ?_, ?_, h9⟩, ?_, ?_, owns_keep hown fun g e => ho g ?_⟩
  · exact (h.low.trans (hfr.below fun k hk => ⟨by omega, by show ¬ k = n + 8; omega⟩)).setCell (by show n ≤ n + 9; omega) _
  · exact (ho _ (by omega)).trans ((hb _ (by omega) (by omega)).trans h.sm.b1)
  · exact (ho _ (by omega)).trans ((hb _ (by omega) (by omega)).trans h.sm.b3)
  · exact (ho _ (by omega)).trans ((hb _ (by omega) (by omega)).trans h.sm.b4)
  · exact (ho _ (by omega)).trans ((hb _ (by omega) (by omega)).trans h.sm.b5)
  · exact (ho _ (by omega)).trans ((hb _ (by omega) (by omega)).trans h.sm.b6)
  · exact (ho _ (by omega)).trans ((hb _ (by omega) (by omega)).trans h.sm.b7)
  · exact (ho _ (by omega)).trans ((hb _ (by omega) (by omega)).trans h.box)
  · have := hfr.size; simp; omega
  · cases e
    show gg ≠ n + 9
    rcases hat with hat | hat
    · injection hat; omega
    · omega
theorem owns_one {b e : Nat} {v x : Value} (h : w.ownsRow b e 1 v 1 [x]) : ∃ g c, v = .slice (some ⟨g, 0, none⟩) 1 c ∧ w.cell? ⟨g, 0, none⟩ = some x ∧ b ≤ g ∧ g < w.heap.size := by
  rcases h.2 with ⟨_, h0⟩ | ⟨g, cap, cur, rfl, hb, hg, hcap, _, hcs, htk⟩
  · cases h0
  · refine ⟨g, cap, rfl, ?_, hb, loc_lt hg⟩
    rw [cell_of_row w g 0 _ _ _ hg, ← Array.getElem?_toList]
    have : (cur.toList.take (1 * 1))[0]? = some x := by rw [htk]; rfl
    rw [List.getElem?_take] at this
    simpa using this
end

set_option maxRecDepth 100000 in
set_option maxHeartbeats 6400000 in
theorem works_any (w : World) : Calls Tryz.prog 16 #[] w fun e w' => e = .returned (.bool true) ∧ Below w.heap.size w w' := by
  have C0 := hide (lawSmall_any w)
  unfold St9.agg smSt str at C0
  simp only at C0
  obtain ⟨n, hn⟩ : ∃ n, n = w.heap.size := ⟨_, rfl⟩
  rw [← hn] at C0 ⊢
  have HN := hide hn
  clear hn
  go_enter Tryz.func16, Tryz.ntmps16
  go_wp2_with fail
  refine C0.out.mono ?_
  rintro _ w1 ⟨rfl, hb1, hs1, hr1, hz1⟩
  have hA : Below w1.heap.size w1 (w1.alloc (.cells #[.string ⟨#[]⟩, sl (n + 3), sl (n + 4), sl (n + 6), .slice none 0 0, sl (n + 7), sl (n + 9), .slice none 0 0, .slice none 0 0] 31)) := (Below.refl _ w1).alloc (Nat.le_refl _) _
  have K2 : Hid (Wk n (sl (n + 8)) 1 (premW n) w (w1.alloc (.cells #[.string ⟨#[]⟩, sl (n + 3), sl (n + 4), sl (n + 6), .slice none 0 0, sl (n + 7), sl (n + 9), .slice none 0 0, .slice none 0 0] 31))) := hide ⟨hb1.trans (hA.mono (by omega)), hs1.keep fun g hg => hA.block g (by omega), heap_at (by omega), by simp; omega, ⟨rfl, .inr ⟨n + 8, 1, _, rfl, Nat.zero_le _, (hA.block _ (by omega)).trans hr1.b8, Nat.le_refl _, by decide, rfl, rfl⟩⟩⟩
  have HZ1 := hide hz1
  clear hs1 hb1 hA hz1 hr1 C0
  go_upto_region 2 with fail
  rw [HZ1.out]
  generalize (w1.alloc (.cells #[.string ⟨#[]⟩, sl (n + 3), sl (n + 4), sl (n + 6), .slice none 0 0, sl (n + 7), sl (n + 9), .slice none 0 0, .slice none 0 0] 31)) = w2 at *
  obtain ⟨c0, c1, c2, c3, c4, c5, c6, c7, c8⟩ := K2.out.cells
  have CK := hide (check_any K2.out.one)
  rw [small_one] at CK
  unfold St9.agg smSt str at CK
  simp only at CK
  clear HZ1
  go_upto_region 3 with (first | (go_at_call 8; refine CK.out.mono ?_; rintro _ w3 ⟨rfl, hw3⟩; have K3 := hide (K2.out.below hw3); clear hw3 CK c0 c1 c2 c3 c4 c5 c6 c7 c8; obtain ⟨c0, c1, c2, c3, c4, c5, c6, c7, c8⟩ := K3.out.cells))
  have CV := hide (vars_any K3.out.one 0)
  rw [small_one, small_vars] at CV
  unfold St9.agg smSt str at CV
  simp only at CV
  go_wp2_with fail
  refine CV.out.mono ?_
  rintro e w4 ⟨hw4, ⟨h, _⟩ | ⟨_, d, h, _⟩ | ⟨_, v, nv, kv, h, rfl, hnv, hkv⟩⟩
  · exact absurd rfl h
  · cases h
  cases h
  obtain ⟨g1, k1, rfl, hg1, hl1, hu1⟩ := owns_one hnv
  obtain ⟨g2, k2, rfl, hg2, hl2, hu2⟩ := owns_one hkv
  have K4 := hide (K3.out.below hw4)
  have G1 := hide hg1
  have G2 := hide hg2
  have L1 : n + 11 ≤ g1 := Nat.le_trans K3.out.size hl1
  have L2 : n + 11 ≤ g2 := Nat.le_trans K3.out.size hl2
  clear hw4 hnv hkv hg1 hg2 hl1 hl2 CV K2 K3 c0 c1 c2 c3 c4 c5 c6 c7 c8
  go_upto_region 4 with fail
  have c6 := K4.out.cells.2.2.2.2.2.2.1
  have r4 : w4.cell? ⟨n + 9, 4, none⟩ = some (sl (n + 8)) := cell_of_row w4 _ 4 _ _ _ K4.out.sm.b9
  have rf : w4.frozen? ⟨n + 9, 4, none⟩ = false := frozen_of_row w4 _ 4 _ _ K4.out.sm.b9
  obtain ⟨iM, hiM, zM0, zM1, zM2⟩ := info_parts' infoPr
  have hA : Below w4.heap.size w4 (w4.alloc (.cells #[.int .i64 3, .bool false, .string ⟨#[]⟩, .slice none 0 0, .bool false, .int .i64 0, .slice none 0 0, .int .i64 0, .slice none 0 0, .string ⟨#[88]⟩, .string ⟨#[89]⟩] 123)) := (Below.refl _ w4).alloc (Nat.le_refl _) _
  have KA := hide (K4.out.below hA)
  have c6a := KA.out.cells.2.2.2.2.2.2.1
  have r4a : (w4.alloc (.cells #[.int .i64 3, .bool false, .string ⟨#[]⟩, .slice none 0 0, .bool false, .int .i64 0, .slice none 0 0, .int .i64 0, .slice none 0 0, .string ⟨#[88]⟩, .string ⟨#[89]⟩] 123)).cell? ⟨n + 9, 4, none⟩ = some (sl (n + 8)) := cell_of_row _ _ 4 _ _ _ KA.out.sm.b9
  have rfa : (w4.alloc (.cells #[.int .i64 3, .bool false, .string ⟨#[]⟩, .slice none 0 0, .bool false, .int .i64 0, .slice none 0 0, .int .i64 0, .slice none 0 0, .string ⟨#[88]⟩, .string ⟨#[89]⟩] 123)).frozen? ⟨n + 9, 4, none⟩ = false := frozen_of_row _ _ 4 _ _ KA.out.sm.b9
  have hD : Below (w4.alloc (.cells #[.int .i64 3, .bool false, .string ⟨#[]⟩, .slice none 0 0, .bool false, .int .i64 0, .slice none 0 0, .int .i64 0, .slice none 0 0, .string ⟨#[88]⟩, .string ⟨#[89]⟩] 123)).heap.size (w4.alloc (.cells #[.int .i64 3, .bool false, .string ⟨#[]⟩, .slice none 0 0, .bool false, .int .i64 0, .slice none 0 0, .int .i64 0, .slice none 0 0, .string ⟨#[88]⟩, .string ⟨#[89]⟩] 123)) (w4.alloc (.cells #[.int .i64 3, .bool false, .string ⟨#[]⟩, .slice none 0 0, .bool false, .int .i64 0, .slice none 0 0, .int .i64 0, .slice none 0 0, .string ⟨#[88]⟩, .string ⟨#[89]⟩] 123)).drew := ⟨rfl, rfl, rfl, Nat.le_refl _, fun _ _ => rfl⟩
  have KD := hide (KA.out.below hD)
  have HNEW : Hid (∀ j u, premW2[j]? = some u → (w4.alloc (.cells #[.int .i64 3, .bool false, .string ⟨#[]⟩, .slice none 0 0, .bool false, .int .i64 0, .slice none 0 0, .int .i64 0, .slice none 0 0, .string ⟨#[88]⟩, .string ⟨#[89]⟩] 123)).drew.cell? ((⟨w4.heap.size, 0, none⟩ : Addr).add j) = some u) := hide (World.news_of_block (cs := premW2.toArray) (t := 123) (fr := (0, 0)) (heap_alloc_new w4 (.cells #[.int .i64 3, .bool false, .string ⟨#[]⟩, .slice none 0 0, .bool false, .int .i64 0, .slice none 0 0, .int .i64 0, .slice none 0 0, .string ⟨#[88]⟩, .string ⟨#[89]⟩] 123)))
  have HSZ : Hid ((w4.alloc (.cells #[.int .i64 3, .bool false, .string ⟨#[]⟩, .slice none 0 0, .bool false, .int .i64 0, .slice none 0 0, .int .i64 0, .slice none 0 0, .string ⟨#[88]⟩, .string ⟨#[89]⟩] 123)).drew.heap.size = w4.heap.size + 1) := by unfold Hid; show (w4.alloc (.cells #[.int .i64 3, .bool false, .string ⟨#[]⟩, .slice none 0 0, .bool false, .int .i64 0, .slice none 0 0, .int .i64 0, .slice none 0 0, .string ⟨#[88]⟩, .string ⟨#[89]⟩] 123)).heap.size = _; simp
  have HLA := hide (hA.trans (hD.mono hA.size))
  clear hA hD
  have CN := hide num_any
  refine Code.wp_mono (Q := fun e a' w' => match e with | .normal => ∃ gg cap w5, a' = { tmps := #[.bool false, .pointer (some ⟨n + 10, 0, none⟩), .int .i64 0, .int .i64 5, .slice (some ⟨g1, 0, none⟩) 1 k1, .slice (some ⟨g2, 0, none⟩) 1 k2, .int .i64 0, undef, undef, .agg #[.string ⟨#[]⟩, .slice (some ⟨n + 3, 0, none⟩) 1 1, .slice (some ⟨n + 4, 0, none⟩) 1 1, .slice (some ⟨n + 6, 0, none⟩) 1 1, .slice none 0 0, .slice (some ⟨n + 7, 0, none⟩) 1 1, .slice (some ⟨n + 9, 0, none⟩) 1 1, .slice none 0 0, .slice none 0 0], .tuple #[.int .i64 0, .int .i64 5], .agg #[.string ⟨#[]⟩, .slice (some ⟨n + 3, 0, none⟩) 1 1, .slice (some ⟨n + 4, 0, none⟩) 1 1, .slice (some ⟨n + 6, 0, none⟩) 1 1, .slice none 0 0, .slice (some ⟨n + 7, 0, none⟩) 1 1, .slice (some ⟨n + 9, 0, none⟩) 1 1, .slice none 0 0, .slice none 0 0], .tuple #[.int .i64 0, .int .i64 5], .int .i64 0, .int .i64 5, .tuple #[.slice (some ⟨g1, 0, none⟩) 1 k1, .slice (some ⟨g2, 0, none⟩) 1 k2, .int .i64 0], .agg #[.string ⟨#[]⟩, .slice (some ⟨n + 3, 0, none⟩) 1 1, .slice (some ⟨n + 4, 0, none⟩) 1 1, .slice (some ⟨n + 6, 0, none⟩) 1 1, .slice none 0 0, .slice (some ⟨n + 7, 0, none⟩) 1 1, .slice (some ⟨n + 9, 0, none⟩) 1 1, .slice none 0 0, .slice none 0 0], .tuple #[.slice (some ⟨g1, 0, none⟩) 1 k1, .slice (some ⟨g2, 0, none⟩) 1 k2, .int .i64 0], .slice (some ⟨g1, 0, none⟩) 1 k1, .slice (some ⟨g2, 0, none⟩) 1 k2, .int .i64 0, .pointer (some ⟨n + 10, 6, none⟩), .slice (some ⟨n + 9, 0, none⟩) 1 1, .pointer (some ⟨n + 10, 6, none⟩), .slice (some ⟨n + 9, 0, none⟩) 1 1, .pointer (some ⟨n + 9, 0, none⟩), .pointer (some ⟨n + 9, 4, none⟩), .slice (some ⟨n + 8, 0, none⟩) 1 1, .agg #[.int .i64 3, .bool false, .string ⟨#[]⟩, .slice none 0 0, .bool false, .int .i64 0, .slice none 0 0, .int .i64 0, .slice none 0 0, .string ⟨#[88]⟩, .string ⟨#[89]⟩], .slice (some ⟨w4.heap.size, 0, none⟩) 1 1, .slice (some ⟨gg, 0, none⟩) 2 cap, .pointer (some ⟨n + 9, 0, none⟩), .pointer (some ⟨n + 9, 4, none⟩), undef, undef, undef, undef, undef, undef, undef, undef, undef, undef, undef, undef, undef, undef, undef, undef, undef, undef, undef, undef, undef, undef, undef, undef, undef, undef, undef, undef, undef, undef, undef, undef, undef, undef, undef, undef, undef, undef, undef, undef, undef, undef, undef, undef, undef, undef, undef, undef], defers := [] } ∧ w' = w5.setCell ⟨n + 9, 4, none⟩ (.slice (some ⟨gg, 0, none⟩) 2 cap) ∧ w5.ownsRow 0 123 11 (.slice (some ⟨gg, 0, none⟩) 2 cap) 2 (premW n ++ premW2) ∧ (w4.alloc (.cells #[.int .i64 3, .bool false, .string ⟨#[]⟩, .slice none 0 0, .bool false, .int .i64 0, .slice none 0 0, .int .i64 0, .slice none 0 0, .string ⟨#[88]⟩, .string ⟨#[89]⟩] 123)).drew.grownBy w5 (some (n + 8)) ∧ (some (n + 8) = some gg ∨ gg = w4.heap.size + 1) | _ => False) ?_ ?_
  rotate_left
  · unfold sl at *
    go_region_law (refine step_append_lies _ (by rfl) _ _ _ (by rfl) 0 123 iM _ 11 160 Tryz.underlying94 hiM zM0 zM1 zM2 rfl (by decide) (.slice (some ⟨n + 8, 0, none⟩) 1 1) 1 (premW n) (by rfl) KD.out.row ⟨w4.heap.size, 0, none⟩ 1 1 premW2 (by rfl) rfl HNEW.out (by simp [premW2, Value.oneCell', str]) (by decide) (by unfold maxLen; omega) (by omega) (Nat.zero_le _) (w4.heap.size + 1) HSZ.out ?_; intro gg cap w5 hown hgrow hat hlt5; have q0 : w5.cell? ⟨n + 10, 6, none⟩ = some (.slice (some ⟨n + 9, 0, none⟩) 1 1) := (hgrow.cell_far ⟨n + 10, 6, none⟩ (by rw [HSZ.out]; have := K4.out.size; show n + 10 < _; omega) (by simp [Value.ownBlock])).trans KD.out.cells.2.2.2.2.2.2.1; have q1 : w5.cell? ⟨n + 9, 4, none⟩ = some (.slice (some ⟨n + 8, 0, none⟩) 1 1) := (hgrow.cell_far ⟨n + 9, 4, none⟩ (by rw [HSZ.out]; have := K4.out.size; show n + 9 < _; omega) (by simp [Value.ownBlock])).trans r4a; have q2 : w5.frozen? ⟨n + 9, 4, none⟩ = false := (hgrow.frozen_far ⟨n + 9, 4, none⟩ (by rw [HSZ.out]; have := K4.out.size; show n + 9 < _; omega) (by simp [Value.ownBlock])).trans rfa)
    all_goals exact ⟨gg, cap, w5, rfl, rfl, hown, hgrow, hat⟩
  intro ee aa ww hQ
  cases ee <;> try exact hQ.elim
  obtain ⟨gg, cap, w5, rfl, rfl, hown, hgrow, hat⟩ := hQ
  have K6 := hide (KD.out.grow hown hgrow hat (by have := K4.out.size; omega))
  have hoth : ∀ g, n + 11 ≤ g → g < w4.heap.size → (w5.setCell ⟨n + 9, 4, none⟩ (.slice (some ⟨gg, 0, none⟩) 2 cap)).heap[g]? = w4.heap[g]? := fun g h1 h2 => (heap_setCell_other w5 ⟨n + 9, 4, none⟩ g _ (by show g ≠ n + 9; omega)).trans ((hgrow.block g (by rw [HSZ.out]; omega) (by intro e; cases e; omega)).trans (HLA.out.block g h2))
  have G1' := hide ((World.cell?_of_block (hoth g1 L1 hu1)).trans G1.out)
  have G2' := hide ((World.cell?_of_block (hoth g2 L2 hu2)).trans G2.out)
  have S6 : g1 < (w5.setCell ⟨n + 9, 4, none⟩ (.slice (some ⟨gg, 0, none⟩) 2 cap)).heap.size ∧ g2 < (w5.setCell ⟨n + 9, 4, none⟩ (.slice (some ⟨gg, 0, none⟩) 2 cap)).heap.size := by have := hgrow.size; rw [HSZ.out] at this; simp; omega
  generalize w5.setCell ⟨n + 9, 4, none⟩ (.slice (some ⟨gg, 0, none⟩) 2 cap) = w6 at *
  obtain ⟨c0, c1, c2, c3, c4, c5, c6', c7, c8⟩ := K6.out.cells
  have CK := hide (check_any K6.out.two)
  rw [small_two] at CK
  unfold St9.agg smSt str at CK
  simp only at CK
  clear hown hgrow hat hoth c6 r4 rf hiM zM0 zM1 zM2 KA c6a r4a rfa KD HNEW HSZ HLA K4 G1 G2
  go_upto_region 6 with (first | (go_at_call 8; refine CK.out.mono ?_; rintro _ w7 ⟨rfl, hw7⟩; have K7 := hide (K6.out.below hw7); have G1 := (World.cell?_of_block (hw7.block g1 S6.1)).trans G1'.out; have G2 := (World.cell?_of_block (hw7.block g2 S6.2)).trans G2'.out; clear hw7 CK c0 c1 c2 c3 c4 c5 c6' c7 c8 S6 G1' G2'))
  unfold str bX at G1
  go_wp2_with (first | (go_at_call 12; refine (CN.out _ _).mono ?_; rintro _ w8 ⟨rfl, hw8⟩; subst w8))
  go_ret
  exact ⟨rfl, K7.out.low⟩
end Go.Proofs.YtfnobccminhjpaaGreat
/- A statute in the call's own box. -/
namespace Go.Proofs.YtfnobccminhjpaaGreat
open Go.RowKit Go.Shelf Go.Maps Go.WideMaps

/-- The statute in the call's own box at block H. -/
structure Lw (H : Nat) (S : StatM) (st : St9) (w w' : World) : Prop where
  low : Below H w w'
  rep : SR H w' S st
  box : w'.heap[H]? = some (.cells #[st.title, st.kinds, st.members, st.preds, st.classes, st.sources, st.rules, st.excepts, st.totals] 31 (0, 0))
section
variable {H : Nat} {S : StatM} {st : St9} {w w' w'' : World}
theorem Lw.below (h : Lw H S st w w') (hb : Below w'.heap.size w' w'') : Lw H S st w w'' := by
  have hl := loc_lt h.box
  exact ⟨h.low.trans (hb.mono (by omega)), h.rep.keep fun g hg => hb.block g (by omega), (hb.block _ hl).trans h.box⟩
theorem Lw.sr (h : Lw H S st w w') : SR w'.heap.size w' S st := SR.mono (by have := loc_lt h.box; omega) h.rep
theorem Lw.cells (h : Lw H S st w w') : w'.cell? ⟨H, 0, none⟩ = some st.title ∧ w'.cell? ⟨H, 1, none⟩ = some st.kinds ∧ w'.cell? ⟨H, 2, none⟩ = some st.members ∧ w'.cell? ⟨H, 3, none⟩ = some st.preds ∧ w'.cell? ⟨H, 4, none⟩ = some st.classes ∧ w'.cell? ⟨H, 5, none⟩ = some st.sources ∧ w'.cell? ⟨H, 6, none⟩ = some st.rules ∧ w'.cell? ⟨H, 7, none⟩ = some st.excepts ∧ w'.cell? ⟨H, 8, none⟩ = some st.totals ∧ ∀ i, w'.frozen? ⟨H, i, none⟩ = false :=
  ⟨cell_of_row w' _ 0 _ _ _ h.box, cell_of_row w' _ 1 _ _ _ h.box, cell_of_row w' _ 2 _ _ _ h.box, cell_of_row w' _ 3 _ _ _ h.box, cell_of_row w' _ 4 _ _ _ h.box, cell_of_row w' _ 5 _ _ _ h.box, cell_of_row w' _ 6 _ _ _ h.box, cell_of_row w' _ 7 _ _ _ h.box, cell_of_row w' _ 8 _ _ _ h.box, fun i => frozen_of_row w' _ i _ _ h.box⟩
theorem Lw.drew (h : Lw H S st w w') : Lw H S st w w'.drew := h.below ⟨rfl, rfl, rfl, Nat.le_refl _, fun _ _ => rfl⟩
theorem Lw.cell (h : Lw H S st w w') {g i : Nat} {u : Value} (hg : g < H) (hw : w.cell? ⟨g, i, none⟩ = some u) : w'.cell? ⟨g, i, none⟩ = some u := (World.cell?_of_block (h.low.block g hg)).trans hw
end
end Go.Proofs.YtfnobccminhjpaaGreat
