import Derived.Test.YtmlhcncagdfjfaaGreatNob
set_option maxRecDepth 100000
set_option maxHeartbeats 12800000
namespace Go.Proofs.YtmlhcncagdfjfaaGreat.Fa
open Go.RowKit Rg
theorem oX {w : World} {T : Th} {F : List Int} {n : Nat} {fa ra ba : Option Addr} {fc rc bc : Nat} (h : TA w.heap.size w T fa fc ra rc ba bc) (hp : Pf T F n) :
    Calls Tryz.prog 173 #[tv T fa fc ra rc ba bc, .func (.func 174) #[] #[], .func (.func 174) #[] #[]] w fun o w' => ∃ q us ms rr op vs H, o = .returned (.agg (vk us ms rr op n T.rules.length).toArray) ∧ Nw w.heap.size q us ms rr op n T.rules.length (eA T kS T.rules.length) (dw T kS (opK T kS T.rules.length) T.rules.length) H vs w' ∧ (∀ z : Nat, z < n → (H 0).getD z [] = d9 T kS T.rules.length z) ∧ Below w.heap.size w w' := by
 obtain ⟨iL, CF, CG, Cl, Cj⟩ := info_parts mT
 obtain ⟨iB, CJ, Cu, Cy, Cp⟩ := info_parts jG
 obtain ⟨iI, BC, Bm, Br, Bo⟩ := info_parts gT
 have Dh := hp.n4
 have Db : T.rules.length ≤ 4096 := hp.ok.rl
 have BG : ∀ W, (Instr.makeSlice 22 (.int .i64 T.lits) (.int .i64 T.lits)).run Tryz.prog W = .ok (sl W.heap.size n) (W.alloc (.cells (Array.replicate n (.slice none 0 0)) 26)) := fun W => by rw [hp.ln]; exact aI (P := Tryz.prog) Tryz.underlying22 CF CG Cl rfl n (by rw [Cj]; omega) (by unfold maxLen; omega) W
 have BJ : ∀ W, (Instr.makeSlice 26 (.int .i64 T.lits) (.int .i64 T.lits)).run Tryz.prog W = .ok (sl W.heap.size n) (W.alloc (.cells (Array.replicate n (.int .i64 0)) 3)) := fun W => by rw [hp.ln]; exact aI (P := Tryz.prog) Tryz.underlying26 BC Bm Br rfl n (by rw [Bo]; omega) (by unfold maxLen; omega) W
 have BE : ∀ W, (Instr.makeSlice 26 (.int .i64 T.rules.length) (.int .i64 T.rules.length)).run Tryz.prog W = .ok (sl W.heap.size T.rules.length) (W.alloc (.cells (Array.replicate T.rules.length (.int .i64 0)) 3)) := fun W => aI (P := Tryz.prog) Tryz.underlying26 BC Bm Br rfl T.rules.length (by rw [Bo]; omega) (by unfold maxLen; omega) W
 have BQ : ∀ W, (Instr.makeSlice 106 (.int .i64 T.rules.length) (.int .i64 T.rules.length)).run Tryz.prog W = .ok (sl W.heap.size T.rules.length) (W.alloc (.cells (Array.replicate T.rules.length (.bool false)) 4)) := fun W => aI (P := Tryz.prog) Tryz.underlying106 CJ Cu Cy rfl T.rules.length (by rw [Cp]; omega) (by unfold maxLen; omega) W
 have Bv := ac w (.cells #[.int .i64 T.lits, .slice fa T.foes.length fc, .slice ra T.rules.length rc, .slice ba T.beats.length bc] 25)
 have Bj := ac (w.alloc (.cells #[.int .i64 T.lits, .slice fa T.foes.length fc, .slice ra T.rules.length rc, .slice ba T.beats.length bc] 25)) (.cells #[.slice none 0 0, .slice none 0 0, .slice none 0 0, .slice none 0 0] 178)
 have hB := Bv.trans (Bj.mono Bv.size)
 have BX : Fx w.heap.size 25 [.int .i64 T.lits, .slice fa T.foes.length fc, .slice ra T.rules.length rc, .slice ba T.beats.length bc] ((w.alloc (.cells #[.int .i64 T.lits, .slice fa T.foes.length fc, .slice ra T.rules.length rc, .slice ba T.beats.length bc] 25)).alloc (.cells #[.slice none 0 0, .slice none 0 0, .slice none 0 0, .slice none 0 0] 178)) := (Bj.block _ (by simp)).trans (heap_alloc_new w _)
 have BP : Fx (w.heap.size + 1) 178 [.slice none 0 0, .slice none 0 0, .slice none 0 0, .slice none 0 0] ((w.alloc (.cells #[.int .i64 T.lits, .slice fa T.foes.length fc, .slice ra T.rules.length rc, .slice ba T.beats.length bc] 25)).alloc (.cells #[.slice none 0 0, .slice none 0 0, .slice none 0 0, .slice none 0 0] 178)) := by
  have := heap_alloc_new (w.alloc (.cells #[.int .i64 T.lits, .slice fa T.foes.length fc, .slice ra T.rules.length rc, .slice ba T.beats.length bc] 25)) (.cells #[.slice none 0 0, .slice none 0 0, .slice none 0 0, .slice none 0 0] 178)
  simpa [Fx] using this
 have Bh := hide (TR.go hB h)
 have HP := hide hp
 have HB := hide hB
 have Av := hide BX
 have AP := hide BP
 clear h hp hB Bv Bj
 go_enter Tryz.func173, Tryz.ntmps173
 go_upto_region 1 with fail
 clear BX BP
 generalize (w.alloc (.cells #[.int .i64 T.lits, .slice fa T.foes.length fc, .slice ra T.rules.length rc, .slice ba T.beats.length bc] 25)).alloc (.cells #[.slice none 0 0, .slice none 0 0, .slice none 0 0, .slice none 0 0] 178) = W at *
 obtain ⟨bq, Bp⟩ : ∃ bq, w.heap.size = bq := ⟨_, rfl⟩
 have Cn := hide Bp
 rw [Bp] at Av AP ⊢
 clear Bp
 have HDr := hide ((Below.refl W.heap.size W).drew)
 obtain ⟨W0, BA⟩ : ∃ W0, W.drew = W0 := ⟨_, rfl⟩
 have HX1d := hide (Av.out.keep (HDr.out.block _ Av.out.lt))
 have Ae : Hid (gi [some 14, some 15, some 16, some 17, some 18, some 19, some 20, some 21, some 22, some 23, some 24, some 25, some 26, some 27, some 28, some 7, none] [(3, aa bq)] = true) := hide rfl
 rw [BA] at HX1d HDr
 have Af : Hid (∀ X, Below W0.heap.size W0 X → X.cell? ⟨bq, 0, none⟩ = some (.int .i64 T.lits) ∧ X.cell? ⟨bq, 2, none⟩ = some (.slice ra T.rules.length rc)) := hide fun X hX => by
  have hf := HX1d.out.keep (hX.block _ HX1d.out.lt)
  exact ⟨hf.get (i := 0) rfl, hf.get (i := 2) rfl⟩
 refine bZ ga (Jl 16 [some 14, some 15, some 16, some 17, some 18, some 19, some 20, some 21, some 22, some 23, some 24, some 25, some 26, some 27, some 28, some 7, none] [(3, aa bq)] (vY T.rules.length ra rc T bq n W0.heap.size) (uf T.rules.length n W0) W0) (by kernel_rfl) (by kernel_rfl) ?_ (cC ⟨?_, ?_, ?_, ?_, ?_, ?_, ?_, ?_, ?_, ?_, ?_, ?_, ?_, ?_, ?_, ?_, ?_, trivial⟩) ?_ ?_
 · refine ⟨fun _ => ?_, fun e => by cases e⟩
   show Jg _ _ _ W0 _ _ W.drew
   rw [BA]
   exact Jg.start.2 fun p hp => by simp at hp; subst hp; rfl
 · intro ρ X L hc hf hL hd Ab Ac
   have Aa : L 16 = false := am (by kernel_rfl) Ab (k := 0) (by simp) hL
   have hJ := Ac.1 Aa
   obtain ⟨c0, c2⟩ := Af.out X hJ.low
   have k3 : ρ (.tmp 3) = aa bq := hJ.base (3, aa bq) (by simp)
   refine ae (v := aa bq) (w' := X) ?_ ⟨fun _ => hJ.put Ae.out bf (i := 0) (d := 14) rfl (Below.refl _ _) (rfl), fun e => by rw [an (by decide), Aa] at e; cases e⟩
   clear hd Ab hJ Ac hL Aa
   go_simp
 · intro ρ X L hc hf hL hd Ab Ac
   have Aa : L 16 = false := am (by kernel_rfl) Ab (k := 1) (by simp) hL
   have hJ := Ac.1 Aa
   obtain ⟨c0, c2⟩ := Af.out X hJ.low
   obtain ⟨_, _, _, e1⟩ := hJ.get (i := 0) (d := 14) rfl (hd ⟨0, .data⟩ (by simp) rfl)
   have Dl : ρ (.tmp 14) = aa bq := e1
   clear e1
   refine ae (v := .int .i64 T.lits) (w' := X) ?_ ⟨fun _ => hJ.put Ae.out bf (i := 1) (d := 15) rfl (Below.refl _ _) (rfl), fun e => by rw [an (by decide), Aa] at e; cases e⟩
   clear hd Ab hJ Ac hL Aa
   go_simp
 · intro ρ X L hc hf hL hd Ab Ac
   have Aa : L 16 = false := am (by kernel_rfl) Ab (k := 2) (by simp) hL
   have hJ := Ac.1 Aa
   obtain ⟨c0, c2⟩ := Af.out X hJ.low
   obtain ⟨_, _, _, e1⟩ := hJ.get (i := 1) (d := 15) rfl (hd ⟨1, .data⟩ (by simp) rfl)
   have Do : ρ (.tmp 15) = .int .i64 T.lits := e1
   have Bx := BG X
   clear e1
   refine ae (v := sl X.heap.size n) (w' := X.alloc (.cells (Array.replicate n (.slice none 0 0)) 26)) ?_ ⟨fun _ => hJ.put Ae.out bf (i := 2) (d := 16) rfl (ac X _) (⟨X.heap.size, rfl, by unfold Fx; rw [heap_alloc_new]; simp, Nat.le_refl _, by simp, hJ.low.size⟩), fun e => by rw [an (by decide), Aa] at e; cases e⟩
   clear hd Ab hJ Ac hL Aa
   go_simp
 · intro ρ X L hc hf hL hd Ab Ac
   have Aa : L 16 = false := am (by kernel_rfl) Ab (k := 3) (by simp) hL
   have hJ := Ac.1 Aa
   obtain ⟨c0, c2⟩ := Af.out X hJ.low
   have k3 : ρ (.tmp 3) = aa bq := hJ.base (3, aa bq) (by simp)
   refine ae (v := .pointer (some ⟨bq, 2, none⟩)) (w' := X) ?_ ⟨fun _ => hJ.put Ae.out bf (i := 3) (d := 17) rfl (Below.refl _ _) (rfl), fun e => by rw [an (by decide), Aa] at e; cases e⟩
   clear hd Ab hJ Ac hL Aa
   go_simp
 · intro ρ X L hc hf hL hd Ab Ac
   have Aa : L 16 = false := am (by kernel_rfl) Ab (k := 4) (by simp) hL
   have hJ := Ac.1 Aa
   obtain ⟨c0, c2⟩ := Af.out X hJ.low
   obtain ⟨_, _, _, e1⟩ := hJ.get (i := 3) (d := 17) rfl (hd ⟨3, .data⟩ (by simp) rfl)
   have CX : ρ (.tmp 17) = .pointer (some ⟨bq, 2, none⟩) := e1
   clear e1
   refine ae (v := .slice ra T.rules.length rc) (w' := X) ?_ ⟨fun _ => hJ.put Ae.out bf (i := 4) (d := 18) rfl (Below.refl _ _) (rfl), fun e => by rw [an (by decide), Aa] at e; cases e⟩
   clear hd Ab hJ Ac hL Aa
   go_simp
 · intro ρ X L hc hf hL hd Ab Ac
   have Aa : L 16 = false := am (by kernel_rfl) Ab (k := 5) (by simp) hL
   have hJ := Ac.1 Aa
   obtain ⟨c0, c2⟩ := Af.out X hJ.low
   obtain ⟨_, _, _, e1⟩ := hJ.get (i := 4) (d := 18) rfl (hd ⟨4, .data⟩ (by simp) rfl)
   have Dm : ρ (.tmp 18) = .slice ra T.rules.length rc := e1
   clear e1
   refine ae (v := .int .i64 T.rules.length) (w' := X) ?_ ⟨fun _ => hJ.put Ae.out bf (i := 5) (d := 19) rfl (Below.refl _ _) (rfl), fun e => by rw [an (by decide), Aa] at e; cases e⟩
   clear hd Ab hJ Ac hL Aa
   go_simp
 · intro ρ X L hc hf hL hd Ab Ac
   have Aa : L 16 = false := am (by kernel_rfl) Ab (k := 6) (by simp) hL
   have hJ := Ac.1 Aa
   obtain ⟨c0, c2⟩ := Af.out X hJ.low
   obtain ⟨_, _, _, e1⟩ := hJ.get (i := 5) (d := 19) rfl (hd ⟨5, .data⟩ (by simp) rfl)
   have Da : ρ (.tmp 19) = .int .i64 T.rules.length := e1
   have Bx := BE X
   clear e1
   refine ae (v := sl X.heap.size T.rules.length) (w' := X.alloc (.cells (Array.replicate T.rules.length (.int .i64 0)) 3)) ?_ ⟨fun _ => hJ.put Ae.out bf (i := 6) (d := 20) rfl (ac X _) (⟨X.heap.size, rfl, by unfold Fx; rw [heap_alloc_new, ju], Nat.le_refl _, by simp, hJ.low.size⟩), fun e => by rw [an (by decide), Aa] at e; cases e⟩
   clear hd Ab hJ Ac hL Aa
   go_simp
 · intro ρ X L hc hf hL hd Ab Ac
   have Aa : L 16 = false := am (by kernel_rfl) Ab (k := 7) (by simp) hL
   have hJ := Ac.1 Aa
   obtain ⟨c0, c2⟩ := Af.out X hJ.low
   have k3 : ρ (.tmp 3) = aa bq := hJ.base (3, aa bq) (by simp)
   refine ae (v := .pointer (some ⟨bq, 2, none⟩)) (w' := X) ?_ ⟨fun _ => hJ.put Ae.out bf (i := 7) (d := 21) rfl (Below.refl _ _) (rfl), fun e => by rw [an (by decide), Aa] at e; cases e⟩
   clear hd Ab hJ Ac hL Aa
   go_simp
 · intro ρ X L hc hf hL hd Ab Ac
   have Aa : L 16 = false := am (by kernel_rfl) Ab (k := 8) (by simp) hL
   have hJ := Ac.1 Aa
   obtain ⟨c0, c2⟩ := Af.out X hJ.low
   obtain ⟨_, _, _, e1⟩ := hJ.get (i := 7) (d := 21) rfl (hd ⟨7, .data⟩ (by simp) rfl)
   have De : ρ (.tmp 21) = .pointer (some ⟨bq, 2, none⟩) := e1
   clear e1
   refine ae (v := .slice ra T.rules.length rc) (w' := X) ?_ ⟨fun _ => hJ.put Ae.out bf (i := 8) (d := 22) rfl (Below.refl _ _) (rfl), fun e => by rw [an (by decide), Aa] at e; cases e⟩
   clear hd Ab hJ Ac hL Aa
   go_simp
 · intro ρ X L hc hf hL hd Ab Ac
   have Aa : L 16 = false := am (by kernel_rfl) Ab (k := 9) (by simp) hL
   have hJ := Ac.1 Aa
   obtain ⟨c0, c2⟩ := Af.out X hJ.low
   obtain ⟨_, _, _, e1⟩ := hJ.get (i := 8) (d := 22) rfl (hd ⟨8, .data⟩ (by simp) rfl)
   have CQ : ρ (.tmp 22) = .slice ra T.rules.length rc := e1
   clear e1
   refine ae (v := .int .i64 T.rules.length) (w' := X) ?_ ⟨fun _ => hJ.put Ae.out bf (i := 9) (d := 23) rfl (Below.refl _ _) (rfl), fun e => by rw [an (by decide), Aa] at e; cases e⟩
   clear hd Ab hJ Ac hL Aa
   go_simp
 · intro ρ X L hc hf hL hd Ab Ac
   have Aa : L 16 = false := am (by kernel_rfl) Ab (k := 10) (by simp) hL
   have hJ := Ac.1 Aa
   obtain ⟨c0, c2⟩ := Af.out X hJ.low
   obtain ⟨_, _, _, e1⟩ := hJ.get (i := 9) (d := 23) rfl (hd ⟨9, .data⟩ (by simp) rfl)
   have Dr : ρ (.tmp 23) = .int .i64 T.rules.length := e1
   have Bx := BQ X
   clear e1
   refine ae (v := sl X.heap.size T.rules.length) (w' := X.alloc (.cells (Array.replicate T.rules.length (.bool false)) 4)) ?_ ⟨fun _ => hJ.put Ae.out bf (i := 10) (d := 24) rfl (ac X _) (⟨X.heap.size, rfl, by unfold Fx cU; rw [heap_alloc_new]; simp [List.map_const'], Nat.le_refl _, by simp, hJ.low.size⟩), fun e => by rw [an (by decide), Aa] at e; cases e⟩
   clear hd Ab hJ Ac hL Aa
   go_simp
 · intro ρ X L hc hf hL hd Ab Ac
   have Aa : L 16 = false := am (by kernel_rfl) Ab (k := 11) (by simp) hL
   have hJ := Ac.1 Aa
   obtain ⟨c0, c2⟩ := Af.out X hJ.low
   have k3 : ρ (.tmp 3) = aa bq := hJ.base (3, aa bq) (by simp)
   refine ae (v := aa bq) (w' := X) ?_ ⟨fun _ => hJ.put Ae.out bf (i := 11) (d := 25) rfl (Below.refl _ _) (rfl), fun e => by rw [an (by decide), Aa] at e; cases e⟩
   clear hd Ab hJ Ac hL Aa
   go_simp
 · intro ρ X L hc hf hL hd Ab Ac
   have Aa : L 16 = false := am (by kernel_rfl) Ab (k := 12) (by simp) hL
   have hJ := Ac.1 Aa
   obtain ⟨c0, c2⟩ := Af.out X hJ.low
   obtain ⟨_, _, _, e1⟩ := hJ.get (i := 11) (d := 25) rfl (hd ⟨11, .data⟩ (by simp) rfl)
   have Dc : ρ (.tmp 25) = aa bq := e1
   clear e1
   refine ae (v := .int .i64 T.lits) (w' := X) ?_ ⟨fun _ => hJ.put Ae.out bf (i := 12) (d := 26) rfl (Below.refl _ _) (rfl), fun e => by rw [an (by decide), Aa] at e; cases e⟩
   clear hd Ab hJ Ac hL Aa
   go_simp
 · intro ρ X L hc hf hL hd Ab Ac
   have Aa : L 16 = false := am (by kernel_rfl) Ab (k := 13) (by simp) hL
   have hJ := Ac.1 Aa
   obtain ⟨c0, c2⟩ := Af.out X hJ.low
   obtain ⟨_, _, _, e1⟩ := hJ.get (i := 12) (d := 26) rfl (hd ⟨12, .data⟩ (by simp) rfl)
   have CY : ρ (.tmp 26) = .int .i64 T.lits := e1
   have Bx := BJ X
   clear e1
   refine ae (v := sl X.heap.size n) (w' := X.alloc (.cells (Array.replicate n (.int .i64 0)) 3)) ?_ ⟨fun _ => hJ.put Ae.out bf (i := 13) (d := 27) rfl (ac X _) (⟨X.heap.size, rfl, by unfold Fx; rw [heap_alloc_new, ju], Nat.le_refl _, by simp, hJ.low.size⟩), fun e => by rw [an (by decide), Aa] at e; cases e⟩
   clear hd Ab hJ Ac hL Aa
   go_simp
 · intro ρ X L hc hf hL hd Ab Ac
   have Aa : L 16 = false := am (by kernel_rfl) Ab (k := 14) (by simp) hL
   have hJ := Ac.1 Aa
   obtain ⟨c0, c2⟩ := Af.out X hJ.low
   obtain ⟨lo, hi, AT, Bl⟩ := hJ.at_
   have l2 : L 2 = true := hd ⟨2, .data⟩ (by simp) rfl
   have l6 : L 6 = true := hd ⟨6, .data⟩ (by simp) rfl
   have Cs : L 10 = true := hd ⟨10, .data⟩ (by simp) rfl
   have BT : L 13 = true := hd ⟨13, .data⟩ (by simp) rfl
   obtain ⟨-, -, -, g0, e3, f3, a3, b3, n3⟩ := AT 2 16 rfl l2
   obtain ⟨-, -, -, g1, e6, f6, a6, b6, n6⟩ := AT 6 20 rfl l6
   obtain ⟨-, -, -, g2, e9, f9, a9, b9, n9⟩ := AT 10 24 rfl Cs
   obtain ⟨-, -, -, g3, BK, BV, Dp, CP, Ci⟩ := AT 13 27 rfl BT
   have d1 := Bl 6 13 20 27 rfl rfl (by decide) l6 BT
   have Dd : ρ (.tmp 16) = sl g0 n := e3
   have Dj : ρ (.tmp 20) = sl g1 T.rules.length := e6
   have CT : ρ (.tmp 24) = sl g2 T.rules.length := e9
   have CN : ρ (.tmp 27) = sl g3 n := BK
   refine ae (v := .agg #[sl g0 n, sl g1 T.rules.length, sl g2 T.rules.length, sl g3 n]) (w' := X) ?_ ⟨fun _ => hJ.put Ae.out bf (i := 14) (d := 28) rfl (Below.refl _ _) (⟨g0, g1, g2, g3, rfl, f3, f6, f9, BV, ⟨n3, n6, n9, Ci⟩, by omega⟩), fun e => by rw [an (by decide), Aa] at e; cases e⟩
   clear hd Ab hJ Ac hL Aa AT Bl d1 e3 e6 e9 BK f3 f6 f9 BV
   go_simp
 · intro ρ X L hc hf hL hd Ab Ac
   have Aa : L 16 = false := am (by kernel_rfl) Ab (k := 15) (by simp) hL
   have hJ := Ac.1 Aa
   obtain ⟨c0, c2⟩ := Af.out X hJ.low
   refine ae (v := aa X.heap.size) (w' := X.alloc (.cells #[.slice none 0 0, .slice none 0 0, .slice none 0 0, .slice none 0 0] 178)) ?_ ⟨fun _ => hJ.put Ae.out bf (i := 15) (d := 7) rfl (ac X _) (⟨X.heap.size, [.slice none 0 0, .slice none 0 0, .slice none 0 0, .slice none 0 0], rfl, heap_alloc_new X _, rfl, hJ.low.size⟩), fun e => by rw [an (by decide), Aa] at e; cases e⟩
   clear hd Ab hJ Ac hL Aa
   go_simp
 · intro ρ X L hc hf hL hd Ab Ac
   have hJ := Ac.1 hL
   obtain ⟨_, _, _, g0, g1, g2, g3, BZ, f0, f1, f2, f3, ⟨m0, m1, m2, m3⟩, d1⟩ := hJ.get (i := 14) (d := 28) rfl (hd ⟨14, .data⟩ (by simp) rfl)
   obtain ⟨_, _, _, q, xs, e7, h0, Cw, hq⟩ := hJ.get (i := 15) (d := 7) rfl (hd ⟨15, .data⟩ (by simp) rfl)
   obtain ⟨t0, t1, t2, t3, rfl⟩ : ∃ t0 t1 t2 t3, xs = [t0, t1, t2, t3] := by
    match xs, Cw with
    | [t0, t1, t2, t3], _ => exact ⟨t0, t1, t2, t3, rfl⟩
   have CZ : ρ (.tmp 28) = .agg #[sl g0 n, sl g1 T.rules.length, sl g2 T.rules.length, sl g3 n] := BZ
   have k7 : ρ (.tmp 7) = aa q := e7
   have y0 := h0.get (i := 0) (v := t0) rfl
   have z0 := h0.frz 0
   have h1 := h0.set 0 (sl g0 n)
   have y1 := h1.get (i := 1) (v := t1) rfl
   have z1 := h1.frz 1
   have h2 := h1.set 1 (sl g1 T.rules.length)
   have y2 := h2.get (i := 2) (v := t2) rfl
   have z2 := h2.frz 2
   have h3 := h2.set 2 (sl g2 T.rules.length)
   have y3 := h3.get (i := 3) (v := t3) rfl
   have z3 := h3.frz 3
   have h4 := h3.set 3 (sl g3 n)
   have kp : ∀ {g t : Nat} {xs : List Value}, Fx g t xs X → t ≠ 178 → Fx g t xs ((((X.setCell ⟨q, 0, none⟩ (sl g0 n)).setCell ⟨q, 1, none⟩ (sl g1 T.rules.length)).setCell ⟨q, 2, none⟩ (sl g2 T.rules.length)).setCell ⟨q, 3, none⟩ (sl g3 n)) := fun hx ht => by
    have CB := aq hx h0 ht
    exact hx.keep (by simp only [other_set CB])
   have AI : Hid (uf T.rules.length n W0 (fY (fun s => ρ (.tmp s)) none undef) ((((X.setCell ⟨q, 0, none⟩ (sl g0 n)).setCell ⟨q, 1, none⟩ (sl g1 T.rules.length)).setCell ⟨q, 2, none⟩ (sl g2 T.rules.length)).setCell ⟨q, 3, none⟩ (sl g3 n))) := hide ⟨q, g0, g1, g2, g3, by rw [fi (by simp)]; exact k7, ⟨h4, kp f1 (by decide), kp f2 (by decide), kp f3 (by decide), rP (kp f0 (by decide)) m0, ⟨hq, m1, m2, m3⟩, d1, fun i v hv => by rw [List.getElem?_replicate] at hv; split at hv <;> cases hv; exact ⟨fun e => (by cases e), fun e => (by cases e)⟩⟩, ((((hJ.low.setCell (p := ⟨q, 0, none⟩) hq _).setCell (p := ⟨q, 1, none⟩) hq _).setCell (p := ⟨q, 2, none⟩) hq _).setCell (p := ⟨q, 3, none⟩) hq _)⟩
   refine bV (w' := ((((X.setCell ⟨q, 0, none⟩ (sl g0 n)).setCell ⟨q, 1, none⟩ (sl g1 T.rules.length)).setCell ⟨q, 2, none⟩ (sl g2 T.rules.length)).setCell ⟨q, 3, none⟩ (sl g3 n))) ?_ ⟨fun e => (by rw [aL] at e; cases e), fun _ => AI.out⟩
   clear hd Ab hJ Ac hL kp AI f0 f1 f2 f3 h1 h2 h3 h4 h0 BZ e7
   go_simp
 · intro c a' w' _ hE
   exact hE.elim
 · rintro ⟨Ad, df⟩ w' Au AW ⟨L, hL, hJ⟩ Az
   simp only at AW Au
   subst AW
   obtain ⟨q, us, ms, rr, op, e7, Cc, BW⟩ := hJ.2 (hL 16 (by decide))
   have e7 : Ad.getD 7 undef = aa q := e7
   have AB := eq 14 28 7 (by kernel_rfl) Au Az
   simp only [zs, Nat.reduceLT, Nat.reduceAdd, true_or, or_true, or_self, false_and, ne_eq, Nat.reduceEqDiff, not_false_eq_true, not_true_eq_false, and_self, and_false, if_true, if_false, e7] at AB
   rw [AB]
   clear AB hJ hL Az Au e7 BG BQ BJ BE Af Ae
   generalize Ad.getD 14 undef = x14
   generalize Ad.getD 15 undef = x15
   generalize Ad.getD 16 undef = x16
   generalize Ad.getD 17 undef = x17
   generalize Ad.getD 18 undef = x18
   generalize Ad.getD 19 undef = x19
   generalize Ad.getD 20 undef = x20
   generalize Ad.getD 21 undef = x21
   generalize Ad.getD 22 undef = x22
   generalize Ad.getD 23 undef = x23
   generalize Ad.getD 24 undef = x24
   generalize Ad.getD 25 undef = x25
   generalize Ad.getD 26 undef = x26
   generalize Ad.getD 27 undef = x27
   generalize Ad.getD 28 undef = x28
   have Ak := hide Cc
   have Ax : Hid (Below W.heap.size W w') := hide (HDr.out.trans (BW.mono HDr.out.size))
   have Bw : W0.heap.size = W.heap.size := by rw [← BA]; rfl
   rw [Bw] at Ak
   clear Cc BW Bw HDr HX1d
   have c2 := (Av.out.keep (Ax.out.block _ Av.out.lt)).get (i := 2) rfl
   go_wp2_with fail
   clear c2
   go_loopw [32] (fun x wr => ∃ (k : Nat) (H : Nat → List (List Int)) (vs : Nat → List Value), k ≤ T.rules.length ∧ x = .int .i64 k ∧ Hid (Gu T kS n k 0 H) ∧ Hid (Nw W.heap.size q us ms rr op n T.rules.length (eA T kS k) (opK T kS k) H vs wr) ∧ Hid (Below W.heap.size W wr)) (fun x _ => T.rules.length - (intOf x).toNat)
   case atStart => exact ⟨0, _, _, by omega, rfl, hide Gu.start, Ak, Ax⟩
   case round =>
    clear Ak Ax
    obtain ⟨k, H, vs, hk, rfl, HG, HN, HBr⟩ := hrel
    by_cases Ay : k < T.rules.length
    · obtain ⟨r, hr⟩ := ap Ay
      obtain ⟨h0, h1⟩ := HP.out.head r (List.mem_of_getElem? hr)
      obtain ⟨hm, AA⟩ := Int.eq_ofNat_of_zero_le h0
      have AL : hm < n := by omega
      have AV : aj T k = (hm : Int) := by unfold aj; rw [Int.toNat_natCast, hr]; exact AA
      have BS : aF T kS k = kS r := by unfold aF; rw [Int.toNat_natCast, hr]; rfl
      have AS : aF T kS k = kS r := by unfold aF; rw [Int.toNat_natCast, hr]; rfl
      have AU : aA T k = r.body := by unfold aA; rw [Int.toNat_natCast, hr]; rfl
      have hR := TR.keep HBr.out.block Bh.out
      obtain ⟨gr, go, bd, bp, rfl, Bu, x0, x1, x2, -, BO, AK⟩ := dG hR.rules hr
      have CK : r.body.length ≤ 16 := (HP.out.ok.rule r (List.mem_of_getElem? hr)).2.2.2.2.1
      have CD : Hid r.body.Nodup := hide (dj (bP (by omega) (HP.out.ok.rule r (List.mem_of_getElem? hr)).2.2.2.2.2).2)
      have Co : Hid (∀ x ∈ r.body, 0 ≤ x ∧ x < (n : Int)) := hide (HP.out.body r (List.mem_of_getElem? hr))
      have CC : Hid (∀ X, Below W.heap.size W X → At1 X bd (ay r.body)) := hide fun X hX => by
       have h2 := TR.keep hX.block Bh.out
       obtain ⟨g3, o3, b3, p3, e3, Cd, -, -, x3, -, -, Cv⟩ := dG h2.rules hr
       cases e3
       have e4 : wr.cell? ⟨gr, go + k * 3 + 2, none⟩ = X.cell? ⟨gr, go + k * 3 + 2, none⟩ := (World.cell?_of_block (HBr.out.block gr Cd)).trans (World.cell?_of_block (hX.block gr Cd)).symm
       rw [x2, x3] at e4
       cases e4
       exact Cv.at1
      rw [AA] at x1
      have At := ac wr (.cells #[.int .i64 r.kind, .int .i64 hm, .slice bd r.body.length bp] 114)
      have HQ : Hid (Fx wr.heap.size 114 [.int .i64 r.kind, .int .i64 hm, .slice bd r.body.length bp] (wr.alloc (.cells #[.int .i64 r.kind, .int .i64 hm, .slice bd r.body.length bp] 114))) := hide (heap_alloc_new wr _)
      have HNq := hide (HN.out.go At)
      have HBq := hide (HBr.out.trans (At.mono HBr.out.size))
      have HRr := hide hr
      have BB := hide AV
      have BI := hide BS
      have AG := hide AS
      have Bf := hide AU
      have HL := hide Ay
      clear hr h0 h1 AA hR At AK HN HBr Bu AV BS AS AU
      go_upto_region 5 with fail
      clear x0 x1 x2
      generalize wr.alloc (.cells #[.int .i64 r.kind, .int .i64 hm, .slice bd r.body.length bp] 114) = wq at *
      obtain ⟨qr, AO⟩ : ∃ qr, wr.heap.size = qr := ⟨_, rfl⟩
      rw [AO] at HQ ⊢
      clear AO
      have q0 := HQ.out.get (i := 0) rfl
      have q1 := HQ.out.get (i := 1) rfl
      have q2 := HQ.out.get (i := 2) rfl
      have CW := hide (fE (w := wq) (k := r.kind) (h := (hm : Int)) (v := .slice bd r.body.length bp))
      cases htk : decide (r.kind = 1) with
      | false =>
       have As : Hid (kS r = false) := hide htk
       have Be : Hid (eA T kS (k + 1) = eA T kS k) := hide (by rw [lL, BI.out, if_neg (by rw [As.out]; decide)])
       have Ap : Hid (opK T kS (k + 1) = opK T kS k) := hide (by rw [jz, AG.out, if_neg (by rw [As.out]; decide)])
       rw [htk] at CW
       clear htk
       go_wp2_with (go_at_call 174; refine CW.out.mono ?_; rintro _ w3 ⟨rfl, hb⟩; have Ao := hide hb; clear hb)
       go_roundw
       case rel => exact ⟨k + 1, _, _, by have := HL.out; omega, by go_num, hide (HG.out.none HRr.out As.out), hide (by rw [Be.out, Ap.out]; exact HNq.out.go Ao.out), hide (HBq.out.trans (Ao.out.mono HBq.out.size))⟩
       case measure => have := HL.out; simp [intOf]; omega
      | true =>
       have As : Hid (kS r = true) := hide htk
       rw [htk] at CW
       clear htk
       have Be : Hid (eA T kS (k + 1) = az (eA T kS k) k (r.body.length : Nat)) := hide (by rw [lL, BI.out, Bf.out, if_pos As.out])
       go_upto_region 6 with (go_at_call 174; refine CW.out.mono ?_; rintro _ w3 ⟨rfl, hb⟩; have Ao := hide hb; clear hb)
       have AC := hide (HNq.out.go Ao.out)
       have AE := hide (HQ.out.keep (Ao.out.block _ HQ.out.lt))
       have BN := hide (HBq.out.trans (Ao.out.mono HBq.out.size))
       clear HNq HQ HBq Ao q0 q1 q2 CW
       have s1 := AC.out.bx.get (i := 1) rfl
       have q2 := AE.out.get (i := 2) rfl
       have cm := AC.out.fm.get (bz HL.out)
       have zm := AC.out.fm.frz k
       have Bs := hide (AC.out.setM HL.out (r.body.length : Nat))
       have Bt := hide (AE.out.keep (w' := w3.setCell ⟨ms, k, none⟩ (.int .i64 (r.body.length : Nat))) (other_set (aq AE.out AC.out.fm (by decide))))
       have BF := hide (BN.out.setCell (p := ⟨ms, k, none⟩) AC.out.lo.2.1 (.int .i64 (r.body.length : Nat)))
       have q2' := Bt.out.get (i := 2) rfl
       obtain ⟨Ba, Bk⟩ : ∃ Ba, az (eA T kS k) k (r.body.length : Nat) = Ba := ⟨_, rfl⟩
       rw [Bk] at Bs Be
       clear AC AE BN Bk
       go_wp2_with fail
       clear s1 q2 cm zm q2'
       go_loopw [51] (fun x wr => ∃ (j : Nat) (H : Nat → List (List Int)) (vs : Nat → List Value), j ≤ r.body.length ∧ x = .int .i64 j ∧ Hid (Gu T kS n k j H) ∧ Hid (Nw W.heap.size q us ms rr op n T.rules.length Ba (opK T kS k) H vs wr) ∧ Hid (Below W.heap.size W wr) ∧ Hid (Fx qr 114 [.int .i64 r.kind, .int .i64 hm, .slice bd r.body.length bp] wr)) (fun x _ => r.body.length - (intOf x).toNat)
       case atStart => exact ⟨0, _, _, by omega, rfl, HG, Bs, BF, Bt⟩
       case round =>
        clear HG Bs BF Bt
        rename World => wr3
        obtain ⟨j, H, vs, hj, rfl, HG, HN, HBq, HQ⟩ := hrel
        by_cases hjl : j < r.body.length
        · obtain ⟨x0, hx⟩ := ap hjl
          obtain ⟨y0, y1⟩ := Co.out x0 (List.mem_of_getElem? hx)
          obtain ⟨x, rfl⟩ := Int.eq_ofNat_of_zero_le y0
          have Bz : x < n := by omega
          obtain ⟨gx, ox, rfl, cx⟩ := (CC.out wr3 HBq.out).get hx
          have HXx := hide hx
          have Cf : Hid (∀ (c i : Nat) (l : List Int), c < 1 → (H c)[i]? = some l → l.length ≤ 4096) := hide fun c i l hc hl => HG.out.len (by have := HL.out; omega) (z := i) (by rw [← (show c = 0 by omega)]; exact hl)
          clear hx y0 y1
          go_upto_region 10 with fail
          have AJ := (Below.refl wr3.heap.size wr3).drew
          have HNd0 := hide (HN.out.go AJ)
          have HQd0 := hide (HQ.out.keep (AJ.block _ HQ.out.lt))
          have HBd0 := hide (HBq.out.trans (AJ.mono HBq.out.size))
          obtain ⟨wd, By⟩ : ∃ wd, wr3.drew = wd := ⟨_, rfl⟩
          rw [By] at HNd0 HQd0 HBd0
          obtain ⟨l0, Am, An, Bq, BR, Bb, Aw⟩ := HNd0.out.h3.at (c := 0) (by omega) (show x < n from Bz)
          have Bb : wd.cell? ⟨us, x, none⟩ = some (.slice Am l0.length An) := Bb
          have CM : l0.length ≤ 4096 := Cf.out 0 _ _ (by omega) Bq
          have AN := ac wd (.cells #[.int .i64 k] 3)
          have Bg : W.heap.size ≤ wd.heap.size := HBd0.out.size
          obtain ⟨Ar, Al, w2, BH, Bc, Ag, BD, Ch⟩ := run_append_lies (P := Tryz.prog) (wd.alloc (.cells #[.int .i64 k] 3)) 26 26 W.heap.size 3 iI _ 1 8 Tryz.underlying26 BC Bm Br Bo rfl (by decide) (.slice Am l0.length An) l0.length (ay l0) (owns_keep Aw fun g hg => AN.block g (aD Aw hg)) ⟨wd.heap.size, 0, none⟩ 1 1 [.int .i64 k] rfl (World.news_of_block (cs := [.int .i64 k].toArray) (t := 3) (fr := (0, 0)) (heap_alloc_new wd (.cells #[.int .i64 k] 3))) (by simp [Value.oneCell']) (by decide) (by unfold maxLen; omega) (by omega) (by simp; omega) (wd.heap.size + 1) (by simp)
          have BY := hide BH
          have Aq : ∀ k, k < wd.heap.size → Value.ownBlock (.slice Am l0.length An) ≠ some k → w2.heap[k]? = wd.heap[k]? := fun k hk hn => (Ag.block k (by simp; omega) fun e => hn e.symm).trans (AN.block k hk)
          have AX := aw Aw (HNd0.out.h3.fx 0 (by omega)) (by decide)
          have AY := aw Aw HQd0.out (by decide)
          have Bi := aw Aw HNd0.out.bx (by decide)
          obtain ⟨w3, AQ⟩ : ∃ w3, w2.setCell ⟨us, x, none⟩ (.slice (some ⟨Ar, 0, none⟩) (l0.length + 1) Al) = w3 := ⟨_, rfl⟩
          have Ca := hide AQ
          have HN0a : Hid (Nw W.heap.size q us ms rr op n T.rules.length Ba (opK T kS k) (up H 0 ((H 0).set x (l0 ++ [(k : Int)]))) (up vs 0 ((vs 0).set x (.slice (some ⟨Ar, 0, none⟩) (l0.length + 1) Al))) w3) := hide (by rw [← AQ]; exact HNd0.out.add (c := 0) (by omega) Bq BR Bc Aq (by rcases BD with h | h; exact .inl h; exact .inr (by omega)))
          have AE : Hid (Fx qr 114 [.int .i64 r.kind, .int .i64 hm, .slice (some ⟨gx, ox, none⟩) r.body.length bp] w3) := hide (by rw [← AQ]; exact (HQd0.out.keep (Aq _ HQd0.out.lt AY)).keep (other_set (aq HQd0.out (HNd0.out.h3.fx 0 (by omega)) (by decide))))
          have Ao : Hid (Below W.heap.size W w3) := hide (by rw [← AQ]; exact (HBd0.out.trans (show Below W.heap.size wd w2 from (AN.mono Bg).trans ⟨Ag.os, Ag.tape, Ag.output, Ag.size, fun k hk => Ag.block k (by simp; omega) fun e => by have := (Aw.lt k e.symm).1; omega⟩)).setCell (p := ⟨us, x, none⟩) (HNd0.out.h3.lo 0 (by omega)) (.slice (some ⟨Ar, 0, none⟩) (l0.length + 1) Al))
          have Bd : ∀ {a : Addr} {v : Value}, wd.cell? a = some v → Value.ownBlock (.slice Am l0.length An) ≠ some a.block → ∀ X, X = wd ∨ X = wd.alloc (.cells #[.int .i64 k] 3) ∨ X = w2 → X.cell? a = some v := fun ha hn X hX => by
           have Ay := World.block_lt_of_cell? wd _ ha
           rcases hX with rfl | rfl | rfl
           · exact ha
           · exact ar ha AN
           · exact (World.cell?_of_block (Aq _ Ay hn)).trans ha
          have LH := hide (Bd (HNd0.out.bx.get (i := 0) (v := sl us n) rfl) Bi)
          have LQ := hide (Bd (HQd0.out.get (i := 1) rfl) AY)
          have LR := hide (Bd Bb AX)
          have q1 : w2.cell? ⟨us, x, none⟩ = some (.slice Am l0.length An) := LR.out w2 (.inr (.inr rfl))
          have q2 : w2.frozen? ⟨us, x, none⟩ = false := ((HNd0.out.h3.fx 0 (by omega)).keep (Aq _ (HNd0.out.h3.fx 0 (by omega)).lt AX)).frz x
          have Ai : Hid (gi ([some (55, .pointer (some ⟨q, 0, none⟩)), some (56, sl us n), some (57, .int .i64 x), some (58, .pointer (some ⟨q, 0, none⟩)), some (59, sl us n), some (60, .int .i64 x), some (61, .pointer (some ⟨us, x, none⟩)), some (62, .slice Am l0.length An), some (63, .int .i64 k), some (64, .slice (some ⟨wd.heap.size, 0, none⟩) 1 1), some (65, .slice (some ⟨Ar, 0, none⟩) (l0.length + 1) Al), some (66, .pointer (some ⟨us, x, none⟩)), none].map fun p : Option (Nat × Value) => p.map Prod.fst) [(7, aa q), (11, .int .i64 x), (8, .int .i64 k)] = true) := hide rfl
          clear HN HQ HBq Bb Ag Bc BH AY Bi AX BR BD Ch Bd Aq AN Aw HNd0 HQd0 HBd0 Bg AJ AQ
          refine bZ ga (Jt [some (55, .pointer (some ⟨q, 0, none⟩)), some (56, sl us n), some (57, .int .i64 x), some (58, .pointer (some ⟨q, 0, none⟩)), some (59, sl us n), some (60, .int .i64 x), some (61, .pointer (some ⟨us, x, none⟩)), some (62, .slice Am l0.length An), some (63, .int .i64 k), some (64, .slice (some ⟨wd.heap.size, 0, none⟩) 1 1), some (65, .slice (some ⟨Ar, 0, none⟩) (l0.length + 1) Al), some (66, .pointer (some ⟨us, x, none⟩)), none] [(7, aa q), (11, .int .i64 x), (8, .int .i64 k)] (gh 9 10 12 wd (wd.alloc (.cells #[.int .i64 k] 3)) w2 w3)) (by kernel_rfl) (by kernel_rfl) ?_ (cC ⟨?_, ?_, ?_, ?_, ?_, ?_, ?_, ?_, ?_, ?_, ?_, ?_, ?_, trivial⟩) ?_ ?_
          · exact ⟨fun p hp => by simp at hp; rcases hp with rfl | rfl | rfl <;> rfl, fun i d v _ hL => (by cases hL), By⟩
          · intro ρ X L hc hf hL hd Ab hJ
            have k7 : ρ (.tmp 7) = aa q := hJ.base (7, aa q) (by simp)
            refine ae (v := .pointer (some ⟨q, 0, none⟩)) (w' := X) ?_ (hJ.put Ai.out rfl (by rw [au (by decide) (by decide) (by decide)]; exact hJ.wd))
            clear hd Ab hJ hL
            go_simp
          · intro ρ X L hc hf hL hd Ab hJ
            have Df : ρ (.tmp 55) = .pointer (some ⟨q, 0, none⟩) := hJ.vals 0 55 (.pointer (some ⟨q, 0, none⟩)) rfl (hd ⟨0, .data⟩ (by simp) rfl)
            have Ah : L 12 = false := am (by kernel_rfl) Ab (k := 1) (by simp) hL
            have hx := LH.out X (bA hJ.wd Ah)
            clear Ah
            refine ae (v := sl us n) (w' := X) ?_ (hJ.put Ai.out rfl (by rw [au (by decide) (by decide) (by decide)]; exact hJ.wd))
            clear hd Ab hJ hL
            go_simp
          · intro ρ X L hc hf hL hd Ab hJ
            have Ct : ρ (.tmp 11) = .int .i64 x := hJ.base (11, .int .i64 x) (by simp)
            refine ae (v := .int .i64 x) (w' := X) ?_ (hJ.put Ai.out rfl (by rw [au (by decide) (by decide) (by decide)]; exact hJ.wd))
            clear hd Ab hJ hL
            go_simp
          · intro ρ X L hc hf hL hd Ab hJ
            have k7 : ρ (.tmp 7) = aa q := hJ.base (7, aa q) (by simp)
            refine ae (v := .pointer (some ⟨q, 0, none⟩)) (w' := X) ?_ (hJ.put Ai.out rfl (by rw [au (by decide) (by decide) (by decide)]; exact hJ.wd))
            clear hd Ab hJ hL
            go_simp
          · intro ρ X L hc hf hL hd Ab hJ
            have Dg : ρ (.tmp 58) = .pointer (some ⟨q, 0, none⟩) := hJ.vals 3 58 (.pointer (some ⟨q, 0, none⟩)) rfl (hd ⟨3, .data⟩ (by simp) rfl)
            have Ah : L 12 = false := am (by kernel_rfl) Ab (k := 4) (by simp) hL
            have hx := LH.out X (bA hJ.wd Ah)
            clear Ah
            refine ae (v := sl us n) (w' := X) ?_ (hJ.put Ai.out rfl (by rw [au (by decide) (by decide) (by decide)]; exact hJ.wd))
            clear hd Ab hJ hL
            go_simp
          · intro ρ X L hc hf hL hd Ab hJ
            have Ct : ρ (.tmp 11) = .int .i64 x := hJ.base (11, .int .i64 x) (by simp)
            refine ae (v := .int .i64 x) (w' := X) ?_ (hJ.put Ai.out rfl (by rw [au (by decide) (by decide) (by decide)]; exact hJ.wd))
            clear hd Ab hJ hL
            go_simp
          · intro ρ X L hc hf hL hd Ab hJ
            have Dk : ρ (.tmp 59) = sl us n := hJ.vals 4 59 (sl us n) rfl (hd ⟨4, .data⟩ (by simp) rfl)
            have Di : ρ (.tmp 60) = .int .i64 x := hJ.vals 5 60 (.int .i64 x) rfl (hd ⟨5, .data⟩ (by simp) rfl)
            refine ae (v := .pointer (some ⟨us, x, none⟩)) (w' := X) ?_ (hJ.put Ai.out rfl (by rw [au (by decide) (by decide) (by decide)]; exact hJ.wd))
            clear hd Ab hJ hL
            go_simp
          · intro ρ X L hc hf hL hd Ab hJ
            have CU : ρ (.tmp 61) = .pointer (some ⟨us, x, none⟩) := hJ.vals 6 61 (.pointer (some ⟨us, x, none⟩)) rfl (hd ⟨6, .data⟩ (by simp) rfl)
            have Ah : L 12 = false := am (by kernel_rfl) Ab (k := 7) (by simp) hL
            have hx := LR.out X (bA hJ.wd Ah)
            clear Ah
            refine ae (v := .slice Am l0.length An) (w' := X) ?_ (hJ.put Ai.out rfl (by rw [au (by decide) (by decide) (by decide)]; exact hJ.wd))
            clear hd Ab hJ hL
            go_simp
          · intro ρ X L hc hf hL hd Ab hJ
            have k8 : ρ (.tmp 8) = .int .i64 k := hJ.base (8, .int .i64 k) (by simp)
            refine ae (v := .int .i64 k) (w' := X) ?_ (hJ.put Ai.out rfl (by rw [au (by decide) (by decide) (by decide)]; exact hJ.wd))
            clear hd Ab hJ hL
            go_simp
          · intro ρ X L hc hf hL hd Ab hJ
            have CO : ρ (.tmp 63) = .int .i64 k := hJ.vals 8 63 (.int .i64 k) rfl (hd ⟨8, .data⟩ (by simp) rfl)
            have AF : L 10 = false := by cases e : L 10 with | false => rfl | true => (have := Ab 10 _ rfl e ⟨9, .data⟩ (by simp) rfl; rw [show (⟨9, .data⟩ : Edge).on = 9 from rfl] at this; rw [hL] at this; cases this)
            have Ah : L 12 = false := am (by kernel_rfl) Ab (k := 9) (by simp) hL
            have hX := hJ.wd.trans (jV hL AF Ah)
            refine ae (v := .slice (some ⟨wd.heap.size, 0, none⟩) 1 1) (w' := wd.alloc (.cells #[.int .i64 k] 3)) ?_ (hJ.put Ai.out rfl ((eD aL (by rw [an (by decide)]; exact AF) (by rw [an (by decide)]; exact Ah)).symm))
            subst hX
            clear hd Ab hJ hL AF Ah
            go_simp
          · intro ρ X L hc hf hL hd Ab hJ
            have Cm : ρ (.tmp 62) = .slice Am l0.length An := hJ.vals 7 62 (.slice Am l0.length An) rfl (hd ⟨7, .data⟩ (by simp) rfl)
            have CH : ρ (.tmp 64) = .slice (some ⟨wd.heap.size, 0, none⟩) 1 1 := hJ.vals 9 64 (.slice (some ⟨wd.heap.size, 0, none⟩) 1 1) rfl (hd ⟨9, .data⟩ (by simp) rfl)
            have Cx : L 9 = true := hd ⟨9, .data⟩ (by simp) rfl
            have Ah : L 12 = false := am (by kernel_rfl) Ab (k := 10) (by simp) hL
            have hX := hJ.wd.trans (eD Cx hL Ah)
            refine eU _ _ 26 rfl Cm CH (u := .slice (some ⟨Ar, 0, none⟩) (l0.length + 1) Al) (w' := w2) (by rw [hX]; exact BY.out) (hJ.put Ai.out rfl ((eE aL (by rw [an (by decide)]; exact Ah)).symm))
          · intro ρ X L hc hf hL hd Ab hJ
            have Dq : ρ (.tmp 56) = sl us n := hJ.vals 1 56 (sl us n) rfl (hd ⟨1, .data⟩ (by simp) rfl)
            have CR : ρ (.tmp 57) = .int .i64 x := hJ.vals 2 57 (.int .i64 x) rfl (hd ⟨2, .data⟩ (by simp) rfl)
            refine ae (v := .pointer (some ⟨us, x, none⟩)) (w' := X) ?_ (hJ.put Ai.out rfl (by rw [au (by decide) (by decide) (by decide)]; exact hJ.wd))
            clear hd Ab hJ hL
            go_simp
          · intro ρ X L hc hf hL hd Ab hJ
            have Dn : ρ (.tmp 66) = .pointer (some ⟨us, x, none⟩) := hJ.vals 11 66 (.pointer (some ⟨us, x, none⟩)) rfl (hd ⟨11, .data⟩ (by simp) rfl)
            have CS : ρ (.tmp 65) = .slice (some ⟨Ar, 0, none⟩) (l0.length + 1) Al := hJ.vals 10 65 (.slice (some ⟨Ar, 0, none⟩) (l0.length + 1) Al) rfl (hd ⟨10, .data⟩ (by simp) rfl)
            have AF : L 10 = true := hd ⟨10, .data⟩ (by simp) rfl
            have hX := hJ.wd.trans (eE AF hL)
            refine bV (w' := w3) ?_ (hJ.last rfl ((eB aL).symm))
            subst hX
            clear hd Ab hJ hL AF
            rw [← Ca.out]
            go_simp
          · intro c a' w' _ hE
            exact hE.elim
          · rintro ⟨Ad, df⟩ w' Au AW ⟨L, hL, hJ⟩ Az
            simp only at AW Au
            subst AW
            have Cr : w3 = w' := (hJ.wd.trans (eB (hL 12 (by decide)))).symm
            subst Cr
            have AB := dD 55 66 (by kernel_rfl) Au Az
            simp only [zr, Nat.reduceLT, Nat.reduceAdd, true_or, or_true, or_self, if_true, if_false] at AB
            rw [AB]
            clear AB hJ hL Az Au Ai BY Ca LH LQ LR q1 q2 By
            generalize Ad.getD 55 undef = x55
            generalize Ad.getD 56 undef = x56
            generalize Ad.getD 57 undef = x57
            generalize Ad.getD 58 undef = x58
            generalize Ad.getD 59 undef = x59
            generalize Ad.getD 60 undef = x60
            generalize Ad.getD 61 undef = x61
            generalize Ad.getD 62 undef = x62
            generalize Ad.getD 63 undef = x63
            generalize Ad.getD 64 undef = x64
            generalize Ad.getD 65 undef = x65
            generalize Ad.getD 66 undef = x66
            have Bn := hide (HG.out.add HRr.out CD.out HXx.out Bz Bq)
            go_wp2_with fail
            go_roundw
            case rel => exact ⟨j + 1, _, _, by omega, by go_num, Bn, HN0a, Ao, AE⟩
            case measure => simp [intOf]; omega
        · have Bn := hide (HG.out.next HRr.out As.out (by omega))
          have q0 := HQ.out.get (i := 0) rfl
          have q1 := HQ.out.get (i := 1) rfl
          have q2 := HQ.out.get (i := 2) rfl
          have CL := hide (fE (w := wr3) (k := r.kind) (h := (hm : Int)) (v := .slice bd r.body.length bp))
          have AD : Hid (kS r = true) := hide As.out
          have BU : decide (r.kind = 1) = true := As.out
          rw [BU] at CL
          clear BU
          have Ap : Hid (opK T kS (k + 1) = az (opK T kS k) hm (aH (opK T kS k hm))) := hide (by rw [jz, AG.out, if_pos AD.out, BB.out])
          go_upto_region 13 with (go_at_call 174; refine CL.out.mono ?_; rintro _ w5 ⟨rfl, hb⟩; have Aj := hide hb; clear hb)
          have AH := hide (HN.out.go Aj.out)
          have Ce := hide (HQ.out.keep (Aj.out.block _ HQ.out.lt))
          have BL := hide (HBq.out.trans (Aj.out.mono HBq.out.size))
          clear HN HQ HBq Aj q0 q1 q2 CL
          have s3 := AH.out.bx.get (i := 3) rfl
          have q1 := Ce.out.get (i := 1) rfl
          have co := AH.out.fo.get (bz AL)
          have zo := AH.out.fo.frz hm
          obtain ⟨v1, BM⟩ : ∃ v1, IntKind.i64.wrap (opK T kS k hm + 1) = v1 := ⟨_, rfl⟩
          have HV : Hid (aH (opK T kS k hm) = v1) := hide BM
          have Cz := hide (AH.out.setO AL v1)
          have Ck := hide (BL.out.setCell (p := ⟨op, hm, none⟩) AH.out.lo.2.2.2 (.int .i64 v1))
          generalize opK T kS k hm = xo at co BM
          clear AH Ce BL
          go_wp2_with fail
          go_roundw
          case rel => exact ⟨k + 1, _, _, by have := HL.out; omega, by go_num, Bn, hide (by rw [Be.out, Ap.out, HV.out]; exact Cz.out), Ck⟩
          case measure => have := HL.out; simp [intOf]; omega
    · have AM : k = T.rules.length := by omega
      have Ak : Hid (Nw W.heap.size q us ms rr op n T.rules.length (eA T kS T.rules.length) (dw T kS (opK T kS T.rules.length) 0) H vs wr) := hide (by have := HN.out; rw [AM] at this; exact this)
      have CA : Hid (Gu T kS n T.rules.length 0 H) := hide (by have := HG.out; rw [AM] at this; exact this)
      have Ax := hide HBr.out
      clear HN HG HBr AM
      have c2 := (Av.out.keep (Ax.out.block _ Av.out.lt)).get (i := 2) rfl
      go_wp2_with fail
      clear c2
      go_loopw [83] (fun x wr => ∃ k : Nat, k ≤ T.rules.length ∧ x = .int .i64 k ∧ Hid (Nw W.heap.size q us ms rr op n T.rules.length (eA T kS T.rules.length) (dw T kS (opK T kS T.rules.length) k) H vs wr) ∧ Hid (Below W.heap.size W wr)) (fun x _ => T.rules.length - (intOf x).toNat)
      case atStart => exact ⟨0, by omega, rfl, Ak, Ax⟩
      case round =>
       clear Ak Ax
       rename World => wr5
       obtain ⟨k, hk, rfl, HN, HBr⟩ := hrel
       by_cases Ay : k < T.rules.length
       · obtain ⟨r, hr⟩ := ap Ay
         obtain ⟨h0, h1⟩ := HP.out.head r (List.mem_of_getElem? hr)
         obtain ⟨hm, AA⟩ := Int.eq_ofNat_of_zero_le h0
         have AL : hm < n := by omega
         have AV : aj T k = (hm : Int) := by unfold aj; rw [Int.toNat_natCast, hr]; exact AA
         have AS : aF T kS k = kS r := by unfold aF; rw [Int.toNat_natCast, hr]; rfl
         have AU : aA T k = r.body := by unfold aA; rw [Int.toNat_natCast, hr]; rfl
         have hR := TR.keep HBr.out.block Bh.out
         obtain ⟨gr, go, bd, bp, rfl, Bu, x0, x1, x2, -, BO, AK⟩ := dG hR.rules hr
         rw [AA] at x1
         have At := ac wr5 (.cells #[.int .i64 r.kind, .int .i64 hm, .slice bd r.body.length bp] 114)
         have HQ : Hid (Fx wr5.heap.size 114 [.int .i64 r.kind, .int .i64 hm, .slice bd r.body.length bp] (wr5.alloc (.cells #[.int .i64 r.kind, .int .i64 hm, .slice bd r.body.length bp] 114))) := hide (heap_alloc_new wr5 _)
         have HNq := hide (HN.out.go At)
         have HBq := hide (HBr.out.trans (At.mono HBr.out.size))
         have BB := hide AV
         have AG := hide AS
         have Bf := hide AU
         have HL := hide Ay
         clear hr h0 h1 AA hR At AK HN HBr Bu AV AS AU
         go_upto_region 18 with fail
         clear x0 x1 x2
         generalize wr5.alloc (.cells #[.int .i64 r.kind, .int .i64 hm, .slice bd r.body.length bp] 114) = wq at *
         obtain ⟨qr, AO⟩ : ∃ qr, wr5.heap.size = qr := ⟨_, rfl⟩
         rw [AO] at HQ ⊢
         clear AO
         have q0 := HQ.out.get (i := 0) rfl
         have q1 := HQ.out.get (i := 1) rfl
         have q2 := HQ.out.get (i := 2) rfl
         have CL := hide (fE (w := wq) (k := r.kind) (h := (hm : Int)) (v := .slice bd r.body.length bp))
         cases htk : decide (r.kind = 1) with
         | false =>
          have AD : Hid (kS r = false) := hide (by exact htk)
          have Ap : Hid (dw T kS (opK T kS T.rules.length) (k + 1) = dw T kS (opK T kS T.rules.length) k) := hide (by rw [gn, AG.out, AD.out]; rfl)
          rw [htk] at CL
          clear htk
          go_wp2_with (go_at_call 174; refine CL.out.mono ?_; rintro _ w5 ⟨rfl, hb⟩; have Aj := hide hb; clear hb)
          go_roundw
          case rel => exact ⟨k + 1, by have := HL.out; omega, by go_num, hide (by rw [Ap.out]; exact HNq.out.go Aj.out), hide (HBq.out.trans (Aj.out.mono HBq.out.size))⟩
          case measure => have := HL.out; simp [intOf]; omega
         | true =>
          have AD : Hid (kS r = true) := hide (by exact htk)
          rw [htk] at CL
          clear htk
          by_cases he : r.body.length = 0
          · have AR : r.body.isEmpty = true := by rw [List.isEmpty_iff]; exact List.eq_nil_of_length_eq_zero he
            have Ap : Hid (dw T kS (opK T kS T.rules.length) (k + 1) = az (dw T kS (opK T kS T.rules.length) k) hm 0) := hide (by rw [gn, AG.out, AD.out, Bf.out, AR, BB.out]; rfl)
            have Cb : ((r.body.length : Int) == 0) = true := by simpa using he
            have AZ : Hid (∀ X, Below wq.heap.size wq X → X.cell? ⟨qr, 1, none⟩ = some (.int .i64 hm) ∧ X.cell? ⟨qr, 2, none⟩ = some (.slice bd r.body.length bp) ∧ X.cell? ⟨q, 3, none⟩ = some (sl op n) ∧ X.cell? ⟨op, hm, none⟩ = some (.int .i64 (dw T kS (opK T kS T.rules.length) k hm)) ∧ X.frozen? ⟨op, hm, none⟩ = false) := hide fun X hX => by
             have a := HQ.out.keep (hX.block _ HQ.out.lt)
             have b := HNq.out.go hX
             exact ⟨a.get (i := 1) rfl, a.get (i := 2) rfl, b.bx.get (i := 3) rfl, b.fo.get (bz AL), b.fo.frz hm⟩
            clear AR
            rw [he] at *
            go_wp2_with (go_at_call 174; refine CL.out.mono ?_; rintro _ w5 ⟨rfl, hb⟩; have Aj := hide hb; obtain ⟨k1, k2, k3, k4, k5⟩ := AZ.out w5 hb; clear hb)
            go_roundw
            case rel => exact ⟨k + 1, by have := HL.out; omega, by go_num, hide (by rw [Ap.out]; exact (HNq.out.go Aj.out).setO AL 0), hide ((HBq.out.trans (Aj.out.mono HBq.out.size)).setCell (p := ⟨op, hm, none⟩) HNq.out.lo.2.2.2 (.int .i64 0))⟩
            case measure => have := HL.out; simp [intOf]; omega
          · have AR : r.body.isEmpty = false := by cases hb : r.body with
             | nil => rw [hb] at he; simp at he
             | cons _ _ => rfl
            have Ap : Hid (dw T kS (opK T kS T.rules.length) (k + 1) = dw T kS (opK T kS T.rules.length) k) := hide (by rw [gn, AG.out, AD.out, Bf.out, AR]; rfl)
            have Cb : ((r.body.length : Int) == 0) = false := by simpa using he
            have CE : (r.body.length == 0) = false := by simpa using he
            have AZ : Hid (∀ X, Below wq.heap.size wq X → X.cell? ⟨qr, 2, none⟩ = some (.slice bd r.body.length bp)) := hide fun X hX => (HQ.out.keep (hX.block _ HQ.out.lt)).get (i := 2) rfl
            obtain ⟨bl, Cg⟩ : ∃ bl, r.body.length = bl := ⟨_, rfl⟩
            rw [Cg] at AZ he Cb CE CL q2 BO
            clear AR
            go_wp2_with (go_at_call 174; refine CL.out.mono ?_; rintro _ w5 ⟨rfl, hb⟩; have Aj := hide hb; have k2 := AZ.out w5 hb; clear hb)
            go_roundw
            case rel => exact ⟨k + 1, by have := HL.out; omega, by go_num, hide (by rw [Ap.out]; exact HNq.out.go Aj.out), hide (HBq.out.trans (Aj.out.mono HBq.out.size))⟩
            case measure => have := HL.out; simp [intOf]; omega
       · have AM : k = T.rules.length := by omega
         have Ak : Hid (Nw W.heap.size q us ms rr op n T.rules.length (eA T kS T.rules.length) (dw T kS (opK T kS T.rules.length) T.rules.length) H vs wr5) := hide (by have := HN.out; rw [AM] at this; exact this)
         clear HN
         have c0 := Ak.out.bx.get (i := 0) rfl
         have c1 := Ak.out.bx.get (i := 1) rfl
         have c2 := Ak.out.bx.get (i := 2) rfl
         have c3 := Ak.out.bx.get (i := 3) rfl
         have HX2r := hide (AP.out.keep (HBr.out.block _ AP.out.lt))
         have CV : bq + 1 < W.heap.size := AP.out.lt
         go_upto_region 21 with fail
         refine wp_region_lit ?_
         refine wpList_plain rfl fun K hK => ?_
         go_simp
         refine hK _ _ ?_
         clear hK
         refine wpList_plain rfl fun K hK => ?_
         refine wp_store_row 178 _ _ rfl (bq + 1) _ rfl rfl _ _ HX2r.out (by kernel_rfl) rfl (by simp [sl, Value.oneCell']) ?_
         refine hK _ _ ?_
         clear hK
         have AI := hide (setRow_heap wr5 (bq + 1) _ #[sl us n, sl ms T.rules.length, sl rr T.rules.length, sl op n] _ _ HX2r.out)
         have Cq := hide (Ak.out.far (w' := wr5.setRow (bq + 1) #[sl us n, sl ms T.rules.length, sl rr T.rules.length, sl op n]) (fun g hg _ => setRow_other _ _ _ _ (by omega)) HB.out.size)
         have CI := hide (jI (b := bq + 1) (HB.out.trans (HBr.out.mono HB.out.size)) (by rw [Cn.out]; omega) #[sl us n, sl ms T.rules.length, sl rr T.rules.length, sl op n])
         generalize wr5.setRow (bq + 1) #[sl us n, sl ms T.rules.length, sl rr T.rules.length, sl op n] = Y at *
         clear Ak HBr c0 c1 c2 c3 HX2r AP
         go_wp2_with fail
         refine bodyPost_ret (v := .agg #[sl us n, sl ms T.rules.length, sl rr T.rules.length, sl op n]) (uY rfl AI.out) rfl ?_
         exact ⟨q, us, ms, rr, op, vs, H, rfl, Cq.out, fun z hz => by have := CA.out.u z hz; simpa using this, CI.out⟩
end Go.Proofs.YtmlhcncagdfjfaaGreat.Fa
