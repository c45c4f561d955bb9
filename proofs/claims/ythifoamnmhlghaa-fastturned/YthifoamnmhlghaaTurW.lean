/- FastTurned, walked. -/
import Derived.Test.YthifoamnmhlghaaSmk
import Derived.Test.YthifoamnmhlghaaWks
namespace Go.Proofs.Ythifoamnmhlghaa.Fa
open Go.RowKit Rg

theorem fault_check {T : Th} {F : List Int} (h : faultM T F = 0) : (checkM T).1 = 0 := by
  unfold faultM at h
  by_cases hc : (checkM T).1 ≠ 0
  · rw [if_pos hc] at h; exact absurd h hc
  · exact Classical.not_not.1 hc
/-- Where a remainder leads. -/
theorem place (x : Int) (len : Nat) (h0 : 0 < len) : ∃ (q : Int) (i : Nat), x.tmod len = q ∧ -(len : Int) < q ∧ q < len ∧ (q + len).tmod len = i ∧ i < len := by
  have b1 := Int.tmod_lt_of_pos x (show (0 : Int) < len by omega)
  have b2 : -(len : Int) < x.tmod len := by
    have e := Int.neg_tmod (-x) (len : Int)
    rw [Int.neg_neg] at e
    have := Int.tmod_lt_of_pos (-x) (show (0 : Int) < len by omega)
    omega
  refine ⟨x.tmod len, ((x.tmod len + len).tmod len).toNat, rfl, b2, b1, ?_, ?_⟩
  · have := Int.tmod_nonneg (len : Int) (show 0 ≤ x.tmod len + len by omega)
    omega
  · have := Int.tmod_nonneg (len : Int) (show 0 ≤ x.tmod len + len by omega)
    have := Int.tmod_lt_of_pos (x.tmod len + len) (show (0 : Int) < len by omega)
    omega
def prU (T : Th) (fa ra ba : Option Addr) (fc rc bc n : Nat) (z1 z2 qa qb : Int) (ia ib : Nat) (U : Th) (N : Nat) (i : Nat) (v : Value) (W : World) (lo hi : Nat) : Prop := match i with
  | 0 => v = .agg #[.int .i64 T.lits, .slice fa T.foes.length fc, .slice ra T.rules.length rc, .slice ba T.beats.length bc]
  | 1 => v = .int .i64 z1
  | 3 => v = .int .i64 qa
  | 5 => v = .int .i64 (qa + n)
  | 7 => v = .int .i64 ia
  | 8 => v = .int .i64 z2
  | 10 => v = .int .i64 qb
  | 12 => v = .int .i64 (qb + n)
  | 14 => v = .int .i64 ib
  | 15 => ∃ fa2 ra2 ba2 fc2 rc2 bc2, v = tv U fa2 fc2 ra2 rc2 ba2 bc2 ∧ hi ≤ W.heap.size ∧ ∀ w5 : World, hi ≤ w5.heap.size → (∀ k, lo ≤ k → k < hi → w5.heap[k]? = W.heap[k]?) → TA w5.heap.size w5 U fa2 fc2 ra2 rc2 ba2 bc2
  | 16 => ∃ g t0 t1 t2 t3, v = ptr g ∧ Fx g 25 [t0, t1, t2, t3] W ∧ lo ≤ g ∧ g < hi ∧ N ≤ g
  | _ => v = .int .i64 n
theorem prU_go {T : Th} {fa ra ba : Option Addr} {fc rc bc n : Nat} {z1 z2 qa qb : Int} {ia ib : Nat} {U : Th} {N : Nat} : ∀ i v W W' lo hi, prU T fa ra ba fc rc bc n z1 z2 qa qb ia ib U N i v W lo hi → hi ≤ W.heap.size → Below W.heap.size W W' → prU T fa ra ba fc rc bc n z1 z2 qa qb ia ib U N i v W' lo hi := by
  intro i v W W' lo hi h hh hb
  have hs := hb.size
  unfold prU at *
  split at h
  all_goals first
    | exact h
    | (obtain ⟨fa2, ra2, ba2, fc2, rc2, bc2, a, b, c⟩ := h; exact ⟨fa2, ra2, ba2, fc2, rc2, bc2, a, by omega, fun w5 h5 h6 => c w5 h5 fun k k1 k2 => by rw [h6 k k1 k2, hb.block k (by omega)]⟩)
    | (obtain ⟨g, t0, t1, t2, t3, a, b, c⟩ := h; exact ⟨g, t0, t1, t2, t3, a, b.keep (hb.block _ b.lt), c⟩)
def finU (U : Th) (W0 : World) (σ : Nat → Value) (W : World) : Prop := ∃ g fa2 ra2 ba2 fc2 rc2 bc2, σ 12 = ptr g ∧ W.heap[g]? = some (.cells #[.int .i64 U.lits, .slice fa2 U.foes.length fc2, .slice ra2 U.rules.length rc2, .slice ba2 U.beats.length bc2] 25 (0, 0)) ∧ TA W.heap.size W U fa2 fc2 ra2 rc2 ba2 bc2 ∧ Below W0.heap.size W0 W
set_option maxRecDepth 100000 in
set_option maxHeartbeats 12800000 in
theorem turned_law {w : World} {T : Th} {F : List Int} {fa ra ba ea : Option Addr} {fc rc bc ec : Nat} {z1 z2 : Int} (h : TA w.heap.size w T fa fc ra rc ba bc) (hF : Ints w.heap.size w F (.slice ea F.length ec)) :
    Calls Try.prog 6 #[tv T fa fc ra rc ba bc, .slice ea F.length ec, .int .i64 z1, .int .i64 z2] w fun e w' => e = .returned (.bool true) ∧ Below w.heap.size w w' := by
  have hB := below_new w (.cells #[.int .i64 T.lits, .slice fa T.foes.length fc, .slice ra T.rules.length rc, .slice ba T.beats.length bc] 25)
  have hX := heap_alloc_new w (.cells #[.int .i64 T.lits, .slice fa T.foes.length fc, .slice ra T.rules.length rc, .slice ba T.beats.length bc] 25)
  have HTA := hide (TR.go hB h)
  have HF := hide (Ints.go hB hF)
  have HB := hide hB
  have HX := hide hX
  clear h hB hF
  go_enter Try.func6, Try.ntmps6
  go_upto_region 1 with fail
  generalize w.alloc (.cells #[.int .i64 T.lits, .slice fa T.foes.length fc, .slice ra T.rules.length rc, .slice ba T.beats.length bc] 25) = W at *
  clear hX
  have CA := hide (works_any (w := W))
  go_upto_region 3 with (go_at_call 8; refine CA.out.mono ?_; rintro _ w1 ⟨rfl, hw1⟩; have HW1 := hide hw1; clear hw1)
  have HX1 := hide ((HW1.out.block _ (loc_lt HX.out)).trans HX.out)
  have HTA1 := hide (TR.go HW1.out HTA.out)
  have HF1 := hide (Ints.go HW1.out HF.out)
  have HB1 := hide (HB.out.trans (HW1.out.mono HB.out.size))
  clear CA HX HTA HF HB HW1
  obtain ⟨-, c0, c1, c2, c3⟩ := Bt.of HX1.out
  by_cases hf : faultM T F = 0
  · have CS := hide (Run_ok HTA1.out HF1.out hf)
    have HFZ := hide hf
    have HP := hide (pf_of hf)
    have HCK := hide (fault_check hf)
    clear hf
    go_upto_region 4 with (go_at_call 9; refine CS.out.mono ?_; rintro _ w2 ⟨v, m, i, rfl, hs, hown, hw2⟩; have HS := hide hs; have HO := hide hown; have HW2 := hide hw2; clear hs hown hw2)
    have HB2 := hide (HB1.out.trans (HW2.out.mono HB1.out.size))
    have HX2 := hide ((HW2.out.block _ (loc_lt HX1.out)).trans HX1.out)
    have HTA2 := hide (TR.go HW2.out HTA1.out)
    have HF2 := hide (Ints.go HW2.out HF1.out)
    clear c0 c1 c2 c3 CS HTA1 HF1 HB1 HX1 HW2
    obtain ⟨nl, hnl⟩ : ∃ n, T.lits.toNat = n := ⟨_, rfl⟩
    have HML : Hid (m.length = nl) := hide (by rw [← hnl]; exact sol_len HP.out HS.out)
    have HNL := hide hnl
    rw [hnl] at HO HP
    have hn4 := HP.out.n4
    clear hnl
    obtain ⟨va, vc, rfl⟩ := owns_slice HO.out
    obtain ⟨-, c0, c1, c2, c3⟩ := Bt.of HX2.out
    have HRL := hide HP.out.ok.rl
    have HBLN := hide HP.out.ok.bl
    obtain ⟨n, hn⟩ : ∃ n, T.rules.length = n := ⟨_, rfl⟩
    have HNR := hide hn
    have hn5 : n ≤ 4096 := by have := HRL.out; omega
    rw [hn] at c2
    clear hn
    go_upto_region 5 with fail
    by_cases hn0 : n = 0
    · have hn1 : ((n : Int) == 0) = true := by simpa using hn0
      have hn2 : (n == 0) = true := by simpa using hn0
      clear hn0
      go_wp2_with fail
      go_ret
      exact ⟨rfl, HB2.out⟩
    · have hn1 : ((n : Int) == 0) = false := by simpa using hn0
      have hn2 : (n == 0) = false := by simpa using hn0
      obtain ⟨qa, ia, r1, r2, r3, r4, r5⟩ := place z1 n (by omega)
      obtain ⟨qb, ib, s1, s2, s3, s4, s5⟩ := place z2 n (by omega)
      have e1 : IntKind.i64.wrap qa = qa := by rw [IntKind.wrap_i64]; omega
      have e2 : IntKind.i64.wrap (qa + n) = qa + n := by rw [IntKind.wrap_i64]; omega
      have e3 : IntKind.i64.wrap (ia : Int) = ia := by rw [IntKind.wrap_i64]; omega
      have f1 : IntKind.i64.wrap qb = qb := by rw [IntKind.wrap_i64]; omega
      have f2 : IntKind.i64.wrap (qb + n) = qb + n := by rw [IntKind.wrap_i64]; omega
      have f3 : IntKind.i64.wrap (ib : Int) = ib := by rw [IntKind.wrap_i64]; omega
      have hni : ¬ (n : Int) = 0 := by omega
      obtain ⟨x, hx⟩ := get_at (l := T.rules) (i := ia) (by rw [HNR.out]; exact r5)
      obtain ⟨y, hy⟩ := get_at (l := T.rules) (i := ib) (by rw [HNR.out]; exact s5)
      have HXR := hide hx
      have HYR := hide hy
      clear hx hy
      obtain ⟨U, hU⟩ : ∃ U, turnT T ia ib x y = U := ⟨_, rfl⟩
      have HUF : Hid (faultM U F = 0) := hide (by rw [← hU]; exact turn_fault HXR.out HYR.out HFZ.out)
      have HUS : Hid (Sol U F m i) := hide (by rw [← hU]; exact turn_sol HXR.out HYR.out HS.out)
      have HUL : Hid (U.lits = T.lits) := hide (by rw [← hU]; rfl)
      have CT : Hid (∀ X, Below w2.drew.heap.size w2.drew X → Calls Try.prog 12 #[.agg #[.int .i64 T.lits, .slice fa T.foes.length fc, .slice ra T.rules.length rc, .slice ba T.beats.length bc], .int .i64 ia, .int .i64 ib] X fun e w' => ∃ fa2 fc2 ra2 rc2 ba2 bc2, e = .returned (tv U fa2 fc2 ra2 rc2 ba2 bc2) ∧ (∀ w5 : World, w'.heap.size ≤ w5.heap.size → (∀ k, X.heap.size ≤ k → k < w'.heap.size → w5.heap[k]? = w'.heap[k]?) → TA w5.heap.size w5 U fa2 fc2 ra2 rc2 ba2 bc2) ∧ Below X.heap.size X w') := hide fun X hX => by
        rw [← hU]
        exact turned_ok (TR.go hX (TR.go (Below.refl w2.heap.size w2).drew HTA2.out)) HCK.out HXR.out HYR.out
      have eT : Hid (∀ args w', (callFunc 12 args).run Try.prog w' = .ok (.enter 12 args) w') := hide (enters_go Try.func12 (by kernel_rfl) (by kernel_rfl))
      clear hU
      go_upto_region 7 with fail
      obtain ⟨bq, hbq⟩ : ∃ bq, w.heap.size = bq := ⟨_, rfl⟩
      have HBQ := hide hbq
      rw [hbq] at HX2 c0 c1 c2 c3 ⊢
      clear hbq
      have HDr := hide ((Below.refl w2.heap.size w2).drew)
      obtain ⟨W0, hW0⟩ : ∃ W0, w2.drew = W0 := ⟨_, rfl⟩
      have HXd := hide ((HDr.out.block _ (loc_lt HX2.out)).trans HX2.out)
      rw [hW0] at CT HDr HXd
      have HOKD : Hid (okD [some 32, some 33, some 34, some 35, some 36, some 37, some 38, some 39, some 40, some 41, some 42, some 43, some 44, some 45, some 46, some 47, some 12, none] [(4, ptr bq), (2, .int .i64 z1), (3, .int .i64 z2), (11, .int .i64 n)] = true) := hide rfl
      have HCL : Hid (∀ X, Below W0.heap.size W0 X → X.cell? ⟨bq, 0, none⟩ = some (.int .i64 T.lits) ∧ X.cell? ⟨bq, 1, none⟩ = some (.slice fa T.foes.length fc) ∧ X.cell? ⟨bq, 2, none⟩ = some (.slice ra T.rules.length rc) ∧ X.cell? ⟨bq, 3, none⟩ = some (.slice ba T.beats.length bc)) := hide fun X hX => by
        obtain ⟨-, c0, c1, c2, c3⟩ := Bt.of ((hX.block _ (loc_lt HXd.out)).trans HXd.out)
        exact ⟨c0, c1, c2, c3⟩
      clear c0 c1 c2 c3
      refine region_j NoE (Jl 17 [some 32, some 33, some 34, some 35, some 36, some 37, some 38, some 39, some 40, some 41, some 42, some 43, some 44, some 45, some 46, some 47, some 12, none] [(4, ptr bq), (2, .int .i64 z1), (3, .int .i64 z2), (11, .int .i64 n)] (prU T fa ra ba fc rc bc n z1 z2 qa qb ia ib U W0.heap.size) (finU U W0) W0) (by kernel_rfl) (by kernel_rfl) ?_ (steps_j ⟨?_, ?_, ?_, ?_, ?_, ?_, ?_, ?_, ?_, ?_, ?_, ?_, ?_, ?_, ?_, ?_, ?_, ?_, trivial⟩) ?_ ?_
      · refine ⟨fun _ => ?_, fun e => by cases e⟩
        show Jg _ _ _ W0 _ _ w2.drew
        rw [hW0]
        exact Jg.start.2 fun p hp => by simp at hp; rcases hp with rfl | rfl | rfl | rfl <;> rfl
      · intro ρ X L hc hf hL hd hcl hJJ
        have hlast : L 17 = false := not_done (by kernel_rfl) hcl (k := 0) (by simp) hL
        have hJ := hJJ.1 hlast
        obtain ⟨c0, c1, c2, c3⟩ := HCL.out X hJ.low
        have k4 : ρ (.tmp 4) = ptr bq := hJ.base (4, ptr bq) (by simp)
        refine does_value (v := .agg #[.int .i64 T.lits, .slice fa T.foes.length fc, .slice ra T.rules.length rc, .slice ba T.beats.length bc]) (w' := X) ?_ ⟨fun _ => hJ.put HOKD.out prU_go (i := 0) (d := 32) rfl (Below.refl _ _) (rfl), fun e => by rw [more_off (by decide), hlast] at e; cases e⟩
        clear hd hcl hJ hJJ hL hlast
        go_simp
      · intro ρ X L hc hf hL hd hcl hJJ
        have hlast : L 17 = false := not_done (by kernel_rfl) hcl (k := 1) (by simp) hL
        have hJ := hJJ.1 hlast
        have k2 : ρ (.tmp 2) = .int .i64 z1 := hJ.base (2, .int .i64 z1) (by simp)
        refine does_value (v := .int .i64 z1) (w' := X) ?_ ⟨fun _ => hJ.put HOKD.out prU_go (i := 1) (d := 33) rfl (Below.refl _ _) (rfl), fun e => by rw [more_off (by decide), hlast] at e; cases e⟩
        clear hd hcl hJ hJJ hL hlast
        go_simp
      · intro ρ X L hc hf hL hd hcl hJJ
        have hlast : L 17 = false := not_done (by kernel_rfl) hcl (k := 2) (by simp) hL
        have hJ := hJJ.1 hlast
        have k11 : ρ (.tmp 11) = .int .i64 n := hJ.base (11, .int .i64 n) (by simp)
        refine does_value (v := .int .i64 n) (w' := X) ?_ ⟨fun _ => hJ.put HOKD.out prU_go (i := 2) (d := 34) rfl (Below.refl _ _) (rfl), fun e => by rw [more_off (by decide), hlast] at e; cases e⟩
        clear hd hcl hJ hJJ hL hlast
        go_simp
      · intro ρ X L hc hf hL hd hcl hJJ
        have hlast : L 17 = false := not_done (by kernel_rfl) hcl (k := 3) (by simp) hL
        have hJ := hJJ.1 hlast
        have k33 : ρ (.tmp 33) = .int .i64 z1 := by
          obtain ⟨_, _, _, e1⟩ := hJ.get (i := 1) (d := 33) rfl (hd ⟨1, .data⟩ (by simp) rfl)
          exact e1
        have k34 : ρ (.tmp 34) = .int .i64 n := by
          obtain ⟨_, _, _, e1⟩ := hJ.get (i := 2) (d := 34) rfl (hd ⟨2, .data⟩ (by simp) rfl)
          exact e1
        refine does_value (v := .int .i64 qa) (w' := X) ?_ ⟨fun _ => hJ.put HOKD.out prU_go (i := 3) (d := 35) rfl (Below.refl _ _) (rfl), fun e => by rw [more_off (by decide), hlast] at e; cases e⟩
        clear hd hcl hJ hJJ hL hlast
        go_simp
      · intro ρ X L hc hf hL hd hcl hJJ
        have hlast : L 17 = false := not_done (by kernel_rfl) hcl (k := 4) (by simp) hL
        have hJ := hJJ.1 hlast
        have k11 : ρ (.tmp 11) = .int .i64 n := hJ.base (11, .int .i64 n) (by simp)
        refine does_value (v := .int .i64 n) (w' := X) ?_ ⟨fun _ => hJ.put HOKD.out prU_go (i := 4) (d := 36) rfl (Below.refl _ _) (rfl), fun e => by rw [more_off (by decide), hlast] at e; cases e⟩
        clear hd hcl hJ hJJ hL hlast
        go_simp
      · intro ρ X L hc hf hL hd hcl hJJ
        have hlast : L 17 = false := not_done (by kernel_rfl) hcl (k := 5) (by simp) hL
        have hJ := hJJ.1 hlast
        have k35 : ρ (.tmp 35) = .int .i64 qa := by
          obtain ⟨_, _, _, e1⟩ := hJ.get (i := 3) (d := 35) rfl (hd ⟨3, .data⟩ (by simp) rfl)
          exact e1
        have k36 : ρ (.tmp 36) = .int .i64 n := by
          obtain ⟨_, _, _, e1⟩ := hJ.get (i := 4) (d := 36) rfl (hd ⟨4, .data⟩ (by simp) rfl)
          exact e1
        refine does_value (v := .int .i64 (qa + n)) (w' := X) ?_ ⟨fun _ => hJ.put HOKD.out prU_go (i := 5) (d := 37) rfl (Below.refl _ _) (rfl), fun e => by rw [more_off (by decide), hlast] at e; cases e⟩
        clear hd hcl hJ hJJ hL hlast
        go_simp
      · intro ρ X L hc hf hL hd hcl hJJ
        have hlast : L 17 = false := not_done (by kernel_rfl) hcl (k := 6) (by simp) hL
        have hJ := hJJ.1 hlast
        have k11 : ρ (.tmp 11) = .int .i64 n := hJ.base (11, .int .i64 n) (by simp)
        refine does_value (v := .int .i64 n) (w' := X) ?_ ⟨fun _ => hJ.put HOKD.out prU_go (i := 6) (d := 38) rfl (Below.refl _ _) (rfl), fun e => by rw [more_off (by decide), hlast] at e; cases e⟩
        clear hd hcl hJ hJJ hL hlast
        go_simp
      · intro ρ X L hc hf hL hd hcl hJJ
        have hlast : L 17 = false := not_done (by kernel_rfl) hcl (k := 7) (by simp) hL
        have hJ := hJJ.1 hlast
        have k37 : ρ (.tmp 37) = .int .i64 (qa + n) := by
          obtain ⟨_, _, _, e1⟩ := hJ.get (i := 5) (d := 37) rfl (hd ⟨5, .data⟩ (by simp) rfl)
          exact e1
        have k38 : ρ (.tmp 38) = .int .i64 n := by
          obtain ⟨_, _, _, e1⟩ := hJ.get (i := 6) (d := 38) rfl (hd ⟨6, .data⟩ (by simp) rfl)
          exact e1
        refine does_value (v := .int .i64 ia) (w' := X) ?_ ⟨fun _ => hJ.put HOKD.out prU_go (i := 7) (d := 39) rfl (Below.refl _ _) (rfl), fun e => by rw [more_off (by decide), hlast] at e; cases e⟩
        clear hd hcl hJ hJJ hL hlast
        go_simp
      · intro ρ X L hc hf hL hd hcl hJJ
        have hlast : L 17 = false := not_done (by kernel_rfl) hcl (k := 8) (by simp) hL
        have hJ := hJJ.1 hlast
        have k3 : ρ (.tmp 3) = .int .i64 z2 := hJ.base (3, .int .i64 z2) (by simp)
        refine does_value (v := .int .i64 z2) (w' := X) ?_ ⟨fun _ => hJ.put HOKD.out prU_go (i := 8) (d := 40) rfl (Below.refl _ _) (rfl), fun e => by rw [more_off (by decide), hlast] at e; cases e⟩
        clear hd hcl hJ hJJ hL hlast
        go_simp
      · intro ρ X L hc hf hL hd hcl hJJ
        have hlast : L 17 = false := not_done (by kernel_rfl) hcl (k := 9) (by simp) hL
        have hJ := hJJ.1 hlast
        have k11 : ρ (.tmp 11) = .int .i64 n := hJ.base (11, .int .i64 n) (by simp)
        refine does_value (v := .int .i64 n) (w' := X) ?_ ⟨fun _ => hJ.put HOKD.out prU_go (i := 9) (d := 41) rfl (Below.refl _ _) (rfl), fun e => by rw [more_off (by decide), hlast] at e; cases e⟩
        clear hd hcl hJ hJJ hL hlast
        go_simp
      · intro ρ X L hc hf hL hd hcl hJJ
        have hlast : L 17 = false := not_done (by kernel_rfl) hcl (k := 10) (by simp) hL
        have hJ := hJJ.1 hlast
        have k40 : ρ (.tmp 40) = .int .i64 z2 := by
          obtain ⟨_, _, _, e1⟩ := hJ.get (i := 8) (d := 40) rfl (hd ⟨8, .data⟩ (by simp) rfl)
          exact e1
        have k41 : ρ (.tmp 41) = .int .i64 n := by
          obtain ⟨_, _, _, e1⟩ := hJ.get (i := 9) (d := 41) rfl (hd ⟨9, .data⟩ (by simp) rfl)
          exact e1
        refine does_value (v := .int .i64 qb) (w' := X) ?_ ⟨fun _ => hJ.put HOKD.out prU_go (i := 10) (d := 42) rfl (Below.refl _ _) (rfl), fun e => by rw [more_off (by decide), hlast] at e; cases e⟩
        clear hd hcl hJ hJJ hL hlast
        go_simp
      · intro ρ X L hc hf hL hd hcl hJJ
        have hlast : L 17 = false := not_done (by kernel_rfl) hcl (k := 11) (by simp) hL
        have hJ := hJJ.1 hlast
        have k11 : ρ (.tmp 11) = .int .i64 n := hJ.base (11, .int .i64 n) (by simp)
        refine does_value (v := .int .i64 n) (w' := X) ?_ ⟨fun _ => hJ.put HOKD.out prU_go (i := 11) (d := 43) rfl (Below.refl _ _) (rfl), fun e => by rw [more_off (by decide), hlast] at e; cases e⟩
        clear hd hcl hJ hJJ hL hlast
        go_simp
      · intro ρ X L hc hf hL hd hcl hJJ
        have hlast : L 17 = false := not_done (by kernel_rfl) hcl (k := 12) (by simp) hL
        have hJ := hJJ.1 hlast
        have k42 : ρ (.tmp 42) = .int .i64 qb := by
          obtain ⟨_, _, _, e1⟩ := hJ.get (i := 10) (d := 42) rfl (hd ⟨10, .data⟩ (by simp) rfl)
          exact e1
        have k43 : ρ (.tmp 43) = .int .i64 n := by
          obtain ⟨_, _, _, e1⟩ := hJ.get (i := 11) (d := 43) rfl (hd ⟨11, .data⟩ (by simp) rfl)
          exact e1
        refine does_value (v := .int .i64 (qb + n)) (w' := X) ?_ ⟨fun _ => hJ.put HOKD.out prU_go (i := 12) (d := 44) rfl (Below.refl _ _) (rfl), fun e => by rw [more_off (by decide), hlast] at e; cases e⟩
        clear hd hcl hJ hJJ hL hlast
        go_simp
      · intro ρ X L hc hf hL hd hcl hJJ
        have hlast : L 17 = false := not_done (by kernel_rfl) hcl (k := 13) (by simp) hL
        have hJ := hJJ.1 hlast
        have k11 : ρ (.tmp 11) = .int .i64 n := hJ.base (11, .int .i64 n) (by simp)
        refine does_value (v := .int .i64 n) (w' := X) ?_ ⟨fun _ => hJ.put HOKD.out prU_go (i := 13) (d := 45) rfl (Below.refl _ _) (rfl), fun e => by rw [more_off (by decide), hlast] at e; cases e⟩
        clear hd hcl hJ hJJ hL hlast
        go_simp
      · intro ρ X L hc hf hL hd hcl hJJ
        have hlast : L 17 = false := not_done (by kernel_rfl) hcl (k := 14) (by simp) hL
        have hJ := hJJ.1 hlast
        have k44 : ρ (.tmp 44) = .int .i64 (qb + n) := by
          obtain ⟨_, _, _, e1⟩ := hJ.get (i := 12) (d := 44) rfl (hd ⟨12, .data⟩ (by simp) rfl)
          exact e1
        have k45 : ρ (.tmp 45) = .int .i64 n := by
          obtain ⟨_, _, _, e1⟩ := hJ.get (i := 13) (d := 45) rfl (hd ⟨13, .data⟩ (by simp) rfl)
          exact e1
        refine does_value (v := .int .i64 ib) (w' := X) ?_ ⟨fun _ => hJ.put HOKD.out prU_go (i := 14) (d := 46) rfl (Below.refl _ _) (rfl), fun e => by rw [more_off (by decide), hlast] at e; cases e⟩
        clear hd hcl hJ hJJ hL hlast
        go_simp
      · intro ρ X L hc hf hL hd hcl hJJ
        have hlast : L 17 = false := not_done (by kernel_rfl) hcl (k := 15) (by simp) hL
        have hJ := hJJ.1 hlast
        have k32 : ρ (.tmp 32) = .agg #[.int .i64 T.lits, .slice fa T.foes.length fc, .slice ra T.rules.length rc, .slice ba T.beats.length bc] := by
          obtain ⟨_, _, _, e1⟩ := hJ.get (i := 0) (d := 32) rfl (hd ⟨0, .data⟩ (by simp) rfl)
          exact e1
        have k39 : ρ (.tmp 39) = .int .i64 ia := by
          obtain ⟨_, _, _, e1⟩ := hJ.get (i := 7) (d := 39) rfl (hd ⟨7, .data⟩ (by simp) rfl)
          exact e1
        have k46 : ρ (.tmp 46) = .int .i64 ib := by
          obtain ⟨_, _, _, e1⟩ := hJ.get (i := 14) (d := 46) rfl (hd ⟨14, .data⟩ (by simp) rfl)
          exact e1
        have hC := CT.out X hJ.low
        have he := eT.out #[.agg #[.int .i64 T.lits, .slice fa T.foes.length fc, .slice ra T.rules.length rc, .slice ba T.beats.length bc], .int .i64 ia, .int .i64 ib] X
        refine does_call (f := 12) (args := #[.agg #[.int .i64 T.lits, .slice fa T.foes.length fc, .slice ra T.rules.length rc, .slice ba T.beats.length bc], .int .i64 ia, .int .i64 ib]) (w' := X) ?_ hC ?_
        · clear hd hcl hJ hJJ hL hlast hC
          go_simp
        · rintro _ Y ⟨fa2, fc2, ra2, rc2, ba2, bc2, rfl, hT, hb⟩
          exact ⟨_, rfl, fun _ => hJ.put HOKD.out prU_go (i := 15) (d := 47) rfl hb ⟨fa2, ra2, ba2, fc2, rc2, bc2, rfl, Nat.le_refl _, hT⟩, fun e => by rw [more_off (by decide), hlast] at e; cases e⟩
      · intro ρ X L hc hf hL hd hcl hJJ
        have hlast : L 17 = false := not_done (by kernel_rfl) hcl (k := 16) (by simp) hL
        have hJ := hJJ.1 hlast
        refine does_value (v := ptr X.heap.size) (w' := X.alloc (.cells #[.int .i64 0, .slice none 0 0, .slice none 0 0, .slice none 0 0] 25)) ?_ ⟨fun _ => hJ.put HOKD.out prU_go (i := 16) (d := 12) rfl (below_new X _) ⟨X.heap.size, .int .i64 0, .slice none 0 0, .slice none 0 0, .slice none 0 0, rfl, heap_alloc_new X _, Nat.le_refl _, by simp, hJ.low.size⟩, fun e => by rw [more_off (by decide), hlast] at e; cases e⟩
        clear hd hcl hJ hJJ hL hlast
        go_simp
      · intro ρ X L hc hf hL hd hcl hJJ
        have hJ := hJJ.1 hL
        obtain ⟨lo, hi, hat, hdis⟩ := hJ.at_
        have l15 : L 15 = true := hd ⟨15, .data⟩ (by simp) rfl
        have l16 : L 16 = true := hd ⟨16, .data⟩ (by simp) rfl
        obtain ⟨-, p2, p3, fa2, ra2, ba2, fc2, rc2, bc2, e47, p1, hT⟩ := hat 15 47 rfl l15
        obtain ⟨-, q2, q3, q, t0, t1, t2, t3, e12, h0, q4, q5, hq⟩ := hat 16 12 rfl l16
        have d1 := hdis 15 16 47 12 rfl rfl (by decide) l15 l16
        have k47 : ρ (.tmp 47) = .agg #[.int .i64 U.lits, .slice fa2 U.foes.length fc2, .slice ra2 U.rules.length rc2, .slice ba2 U.beats.length bc2] := e47
        have k12 : ρ (.tmp 12) = ptr q := e12
        have y0 := h0.get (i := 0) (v := t0) rfl
        have z0 := h0.frz 0
        have h1 := h0.set 0 (.int .i64 U.lits)
        have y1 := h1.get (i := 1) (v := t1) rfl
        have z1 := h1.frz 1
        have h2 := h1.set 1 (.slice fa2 U.foes.length fc2)
        have y2 := h2.get (i := 2) (v := t2) rfl
        have z2 := h2.frz 2
        have h3 := h2.set 2 (.slice ra2 U.rules.length rc2)
        have y3 := h3.get (i := 3) (v := t3) rfl
        have z3 := h3.frz 3
        have h4 := h3.set 3 (.slice ba2 U.beats.length bc2)
        have HFIN : Hid (finU U W0 (laid (fun s => ρ (.tmp s)) none undef) ((((X.setCell ⟨q, 0, none⟩ (.int .i64 U.lits)).setCell ⟨q, 1, none⟩ (.slice fa2 U.foes.length fc2)).setCell ⟨q, 2, none⟩ (.slice ra2 U.rules.length rc2)).setCell ⟨q, 3, none⟩ (.slice ba2 U.beats.length bc2))) := hide ⟨q, fa2, ra2, ba2, fc2, rc2, bc2, by rw [laid_ne (by simp)]; exact k12, h4, hT _ (by simpa using p3) (fun k k1 k2 => by
          have hne : k ≠ q := by omega
          simp only [other_set hne]), ((((hJ.low.setCell (p := ⟨q, 0, none⟩) hq _).setCell (p := ⟨q, 1, none⟩) hq _).setCell (p := ⟨q, 2, none⟩) hq _).setCell (p := ⟨q, 3, none⟩) hq _)⟩
        refine does_skip (w' := ((((X.setCell ⟨q, 0, none⟩ (.int .i64 U.lits)).setCell ⟨q, 1, none⟩ (.slice fa2 U.foes.length fc2)).setCell ⟨q, 2, none⟩ (.slice ra2 U.rules.length rc2)).setCell ⟨q, 3, none⟩ (.slice ba2 U.beats.length bc2))) ?_ ⟨fun e => (by rw [more_at] at e; cases e), fun _ => HFIN.out⟩
        clear hd hcl hJ hJJ hL HFIN h1 h2 h3 h4 h0 e47 e12 hT hat hdis d1 p1 p2 p3 q2 q3 q4 q5 hq l15 l16
        go_simp
      · intro c a' w' _ hE
        exact hE.elim
      · rintro ⟨tmm, df⟩ w' hsz hdf ⟨L, hL, hJ⟩ hold
        simp only at hdf hsz
        subst hdf
        obtain ⟨g, fa2, ra2, ba2, fc2, rc2, bc2, e12, hbx, hTU, hBl⟩ := hJ.2 (hL 17 (by decide))
        have e12 : tmm.getD 12 undef = ptr g := e12
        have htm := frame_keep1 32 47 12 (by kernel_rfl) hsz hold
        simp only [zs, Nat.reduceLT, Nat.reduceAdd, true_or, or_true, or_self, false_and, ne_eq, Nat.reduceEqDiff, not_false_eq_true, not_true_eq_false, and_self, and_false, if_true, if_false, e12] at htm
        rw [htm]
        clear htm hJ hL hold hsz e12 HCL HOKD CT eT
        generalize tmm.getD 32 undef = x32
        generalize tmm.getD 33 undef = x33
        generalize tmm.getD 34 undef = x34
        generalize tmm.getD 35 undef = x35
        generalize tmm.getD 36 undef = x36
        generalize tmm.getD 37 undef = x37
        generalize tmm.getD 38 undef = x38
        generalize tmm.getD 39 undef = x39
        generalize tmm.getD 40 undef = x40
        generalize tmm.getD 41 undef = x41
        generalize tmm.getD 42 undef = x42
        generalize tmm.getD 43 undef = x43
        generalize tmm.getD 44 undef = x44
        generalize tmm.getD 45 undef = x45
        generalize tmm.getD 46 undef = x46
        generalize tmm.getD 47 undef = x47
        have HBx := hide hbx
        have HTU := hide hTU
        have HBl := hide hBl
        have HO3 := hide (owns_keep HO.out fun k hk => (by rw [HBl.out.block k (Nat.lt_of_lt_of_le (owns_lt HO.out hk) HDr.out.size)]; exact HDr.out.block k (owns_lt HO.out hk)))
        have HF3 := hide (Ints.go HBl.out (Ints.go HDr.out HF2.out))
        obtain ⟨-, c0, c1, c2, c3⟩ := Bt.of HBx.out
        clear hbx hTU hBl
        have CS := hide (Run_ok HTU.out HF3.out HUF.out)
        rw [HUL.out, HNL.out] at CS
        go_upto_region 9 with (go_at_call 9; refine CS.out.mono ?_; rintro _ w4 ⟨v4, m4, i4, rfl, hs4, hown4, hw4⟩; have HS4 := hide hs4; have HO4 := hide hown4; have HW4 := hide hw4; clear hs4 hown4 hw4)
        obtain ⟨va4, vc4, rfl⟩ := owns_slice HO4.out
        have em : m4 = m := sol_one HS4.out HUS.out
        subst em
        have CM := hide (sameMarks_yes (n := nl) HML.out hn4 (va := va) (ua := va4) (vc := vc) (uc := vc4) (w := w4) (fun k x hk => owns_at1 (owns_keep HO3.out fun k hk => HW4.out.block k (owns_lt HO3.out hk)) k x hk) (owns_at1 HO4.out))
        go_wp2_with (go_at_call 13; refine CM.out.mono ?_; rintro _ w5 ⟨rfl, hw5⟩; have HW5 := hide hw5; clear hw5)
        go_ret
        refine ⟨rfl, ?_⟩
        exact ((((HB2.out.trans (HDr.out.mono HB2.out.size)).trans (HBl.out.mono (HB2.out.trans (HDr.out.mono HB2.out.size)).size)).trans (HW4.out.mono ((HB2.out.trans (HDr.out.mono HB2.out.size)).trans (HBl.out.mono (HB2.out.trans (HDr.out.mono HB2.out.size)).size)).size)).trans (HW5.out.mono (((HB2.out.trans (HDr.out.mono HB2.out.size)).trans (HBl.out.mono (HB2.out.trans (HDr.out.mono HB2.out.size)).size)).trans (HW4.out.mono ((HB2.out.trans (HDr.out.mono HB2.out.size)).trans (HBl.out.mono (HB2.out.trans (HDr.out.mono HB2.out.size)).size)).size)).size))
  · have CS := hide (Run_bad HTA1.out HF1.out hf)
    have hne : (faultM T F != 0) = true := by simpa using hf
    clear hf
    generalize faultM T F = e0 at *
    go_upto_region 4 with (go_at_call 9; refine CS.out.mono ?_; rintro _ w2 ⟨rfl, hw2⟩; have HW2 := hide hw2; clear hw2)
    have HX2 := hide ((HW2.out.block _ (loc_lt HX1.out)).trans HX1.out)
    clear c0 c1 c2 c3 CS HTA1 HF1
    obtain ⟨-, c0, c1, c2, c3⟩ := Bt.of HX2.out
    generalize T.rules.length = n at *
    go_wp2_with fail
    go_ret
    exact ⟨rfl, HB1.out.trans (HW2.out.mono HB1.out.size)⟩
end Go.Proofs.Ythifoamnmhlghaa.Fa
