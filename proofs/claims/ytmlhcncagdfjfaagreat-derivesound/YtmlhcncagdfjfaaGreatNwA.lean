import Derived.Test.YtmlhcncagdfjfaaGreatNob
set_option maxRecDepth 100000
set_option maxHeartbeats 12800000
namespace Go.Proofs.YtmlhcncagdfjfaaGreat.Fa
open Go.RowKit Rg
theorem ri {w : World} {T : Th} {F : List Int} {n : Nat} {fa ra ba : Option Addr} {fc rc bc : Nat} (h : TA w.heap.size w T fa fc ra rc ba bc) (hp : Pf T F n) :
    Calls Tryz.prog 173 #[tv T fa fc ra rc ba bc, .func (.func 175) #[] #[], .func (.func 176) #[] #[]] w fun o w' => ∃ q us ms rr op vs H, o = .returned (.agg (vk us ms rr op n T.rules.length).toArray) ∧ Nw w.heap.size q us ms rr op n T.rules.length (eA T kA T.rules.length) (dw T kT (opK T kT T.rules.length) T.rules.length) H vs w' ∧ (∀ z : Nat, z < n → (H 0).getD z [] = d9 T kA T.rules.length z) ∧ Below w.heap.size w w' := by
 obtain ⟨iL, CE, CF, Ck, Ch⟩ := info_parts mT
 obtain ⟨iB, CI, Ct, Cx, Co⟩ := info_parts jG
 obtain ⟨iI, BA, Bl, Bp, Bm⟩ := info_parts gT
 have Dg := hp.n4
 have Da : T.rules.length ≤ 4096 := hp.ok.rl
 have BF : ∀ W, (Instr.makeSlice 22 (.int .i64 T.lits) (.int .i64 T.lits)).run Tryz.prog W = .ok (sl W.heap.size n) (W.alloc (.cells (Array.replicate n (.slice none 0 0)) 26)) := fun W => by rw [hp.ln]; exact aI (P := Tryz.prog) Tryz.underlying22 CE CF Ck rfl n (by rw [Ch]; omega) (by unfold maxLen; omega) W
 have BH : ∀ W, (Instr.makeSlice 26 (.int .i64 T.lits) (.int .i64 T.lits)).run Tryz.prog W = .ok (sl W.heap.size n) (W.alloc (.cells (Array.replicate n (.int .i64 0)) 3)) := fun W => by rw [hp.ln]; exact aI (P := Tryz.prog) Tryz.underlying26 BA Bl Bp rfl n (by rw [Bm]; omega) (by unfold maxLen; omega) W
 have BD : ∀ W, (Instr.makeSlice 26 (.int .i64 T.rules.length) (.int .i64 T.rules.length)).run Tryz.prog W = .ok (sl W.heap.size T.rules.length) (W.alloc (.cells (Array.replicate T.rules.length (.int .i64 0)) 3)) := fun W => aI (P := Tryz.prog) Tryz.underlying26 BA Bl Bp rfl T.rules.length (by rw [Bm]; omega) (by unfold maxLen; omega) W
 have BP : ∀ W, (Instr.makeSlice 106 (.int .i64 T.rules.length) (.int .i64 T.rules.length)).run Tryz.prog W = .ok (sl W.heap.size T.rules.length) (W.alloc (.cells (Array.replicate T.rules.length (.bool false)) 4)) := fun W => aI (P := Tryz.prog) Tryz.underlying106 CI Ct Cx rfl T.rules.length (by rw [Co]; omega) (by unfold maxLen; omega) W
 have Bt := ac w (.cells #[.int .i64 T.lits, .slice fa T.foes.length fc, .slice ra T.rules.length rc, .slice ba T.beats.length bc] 25)
 have Bi := ac (w.alloc (.cells #[.int .i64 T.lits, .slice fa T.foes.length fc, .slice ra T.rules.length rc, .slice ba T.beats.length bc] 25)) (.cells #[.slice none 0 0, .slice none 0 0, .slice none 0 0, .slice none 0 0] 178)
 have hB := Bt.trans (Bi.mono Bt.size)
 have BV : Fx w.heap.size 25 [.int .i64 T.lits, .slice fa T.foes.length fc, .slice ra T.rules.length rc, .slice ba T.beats.length bc] ((w.alloc (.cells #[.int .i64 T.lits, .slice fa T.foes.length fc, .slice ra T.rules.length rc, .slice ba T.beats.length bc] 25)).alloc (.cells #[.slice none 0 0, .slice none 0 0, .slice none 0 0, .slice none 0 0] 178)) := (Bi.block _ (by simp)).trans (heap_alloc_new w _)
 have BO : Fx (w.heap.size + 1) 178 [.slice none 0 0, .slice none 0 0, .slice none 0 0, .slice none 0 0] ((w.alloc (.cells #[.int .i64 T.lits, .slice fa T.foes.length fc, .slice ra T.rules.length rc, .slice ba T.beats.length bc] 25)).alloc (.cells #[.slice none 0 0, .slice none 0 0, .slice none 0 0, .slice none 0 0] 178)) := by
  have := heap_alloc_new (w.alloc (.cells #[.int .i64 T.lits, .slice fa T.foes.length fc, .slice ra T.rules.length rc, .slice ba T.beats.length bc] 25)) (.cells #[.slice none 0 0, .slice none 0 0, .slice none 0 0, .slice none 0 0] 178)
  simpa [Fx] using this
 have Bg := hide (TR.go hB h)
 have HP := hide hp
 have HB := hide hB
 have Au := hide BV
 have AO := hide BO
 clear h hp hB Bt Bi
 go_enter Tryz.func173, Tryz.ntmps173
 go_upto_region 1 with fail
 clear BV BO
 generalize (w.alloc (.cells #[.int .i64 T.lits, .slice fa T.foes.length fc, .slice ra T.rules.length rc, .slice ba T.beats.length bc] 25)).alloc (.cells #[.slice none 0 0, .slice none 0 0, .slice none 0 0, .slice none 0 0] 178) = W at *
 obtain ⟨bq, Bn⟩ : ∃ bq, w.heap.size = bq := ⟨_, rfl⟩
 have Cm := hide Bn
 rw [Bn] at Au AO ⊢
 clear Bn
 have HDr := hide ((Below.refl W.heap.size W).drew)
 obtain ⟨W0, By⟩ : ∃ W0, W.drew = W0 := ⟨_, rfl⟩
 have HX1d := hide (Au.out.keep (HDr.out.block _ Au.out.lt))
 have Ae : Hid (gi [some 14, some 15, some 16, some 17, some 18, some 19, some 20, some 21, some 22, some 23, some 24, some 25, some 26, some 27, some 28, some 7, none] [(3, aa bq)] = true) := hide rfl
 rw [By] at HX1d HDr
 have Af : Hid (∀ X, Below W0.heap.size W0 X → X.cell? ⟨bq, 0, none⟩ = some (.int .i64 T.lits) ∧ X.cell? ⟨bq, 2, none⟩ = some (.slice ra T.rules.length rc)) := hide fun X hX => by
  have hf := HX1d.out.keep (hX.block _ HX1d.out.lt)
  exact ⟨hf.get (i := 0) rfl, hf.get (i := 2) rfl⟩
 refine bZ ga (Jl 16 [some 14, some 15, some 16, some 17, some 18, some 19, some 20, some 21, some 22, some 23, some 24, some 25, some 26, some 27, some 28, some 7, none] [(3, aa bq)] (vY T.rules.length ra rc T bq n W0.heap.size) (uf T.rules.length n W0) W0) (by kernel_rfl) (by kernel_rfl) ?_ (cC ⟨?_, ?_, ?_, ?_, ?_, ?_, ?_, ?_, ?_, ?_, ?_, ?_, ?_, ?_, ?_, ?_, ?_, trivial⟩) ?_ ?_
 · refine ⟨fun _ => ?_, fun e => by cases e⟩
   show Jg _ _ _ W0 _ _ W.drew
   rw [By]
   exact Jg.start.2 fun p hp => by simp at hp; subst hp; rfl
 · intro ρ X L hc hf hL hd Ab Ac
   have Aa : L 16 = false := am (by kernel_rfl) Ab (k := 0) (by simp) hL
   have hJ := Ac.1 Aa
   obtain ⟨c0, c2⟩ := Af.out X hJ.low
   have k3 : ρ (.tmp 3) = aa bq := hJ.base (3, aa bq) (by simp)
   refine ae (v := aa bq) (w' := X) ?_ ⟨fun _ => hJ.put Ae.out bf (i := 0) (d := 14) rfl (Below.refl _ _) (rfl), fun e => by rw [an (by decide), Aa] at e; cases e⟩
   clear hd Ab hJ Ac hL Aa
   go_simp
 · intro ρ X L hc hf hL hd Ab Ac
   have Aa : L 16 = false := am (by kernel_rfl) Ab (k := 1) (by simp) hL
   have hJ := Ac.1 Aa
   obtain ⟨c0, c2⟩ := Af.out X hJ.low
   obtain ⟨_, _, _, e1⟩ := hJ.get (i := 0) (d := 14) rfl (hd ⟨0, .data⟩ (by simp) rfl)
   have Dk : ρ (.tmp 14) = aa bq := e1
   clear e1
   refine ae (v := .int .i64 T.lits) (w' := X) ?_ ⟨fun _ => hJ.put Ae.out bf (i := 1) (d := 15) rfl (Below.refl _ _) (rfl), fun e => by rw [an (by decide), Aa] at e; cases e⟩
   clear hd Ab hJ Ac hL Aa
   go_simp
 · intro ρ X L hc hf hL hd Ab Ac
   have Aa : L 16 = false := am (by kernel_rfl) Ab (k := 2) (by simp) hL
   have hJ := Ac.1 Aa
   obtain ⟨c0, c2⟩ := Af.out X hJ.low
   obtain ⟨_, _, _, e1⟩ := hJ.get (i := 1) (d := 15) rfl (hd ⟨1, .data⟩ (by simp) rfl)
   have Dn : ρ (.tmp 15) = .int .i64 T.lits := e1
   have Bv := BF X
   clear e1
   refine ae (v := sl X.heap.size n) (w' := X.alloc (.cells (Array.replicate n (.slice none 0 0)) 26)) ?_ ⟨fun _ => hJ.put Ae.out bf (i := 2) (d := 16) rfl (ac X _) (⟨X.heap.size, rfl, by unfold Fx; rw [heap_alloc_new]; simp, Nat.le_refl _, by simp, hJ.low.size⟩), fun e => by rw [an (by decide), Aa] at e; cases e⟩
   clear hd Ab hJ Ac hL Aa
   go_simp
 · intro ρ X L hc hf hL hd Ab Ac
   have Aa : L 16 = false := am (by kernel_rfl) Ab (k := 3) (by simp) hL
   have hJ := Ac.1 Aa
   obtain ⟨c0, c2⟩ := Af.out X hJ.low
   have k3 : ρ (.tmp 3) = aa bq := hJ.base (3, aa bq) (by simp)
   refine ae (v := .pointer (some ⟨bq, 2, none⟩)) (w' := X) ?_ ⟨fun _ => hJ.put Ae.out bf (i := 3) (d := 17) rfl (Below.refl _ _) (rfl), fun e => by rw [an (by decide), Aa] at e; cases e⟩
   clear hd Ab hJ Ac hL Aa
   go_simp
 · intro ρ X L hc hf hL hd Ab Ac
   have Aa : L 16 = false := am (by kernel_rfl) Ab (k := 4) (by simp) hL
   have hJ := Ac.1 Aa
   obtain ⟨c0, c2⟩ := Af.out X hJ.low
   obtain ⟨_, _, _, e1⟩ := hJ.get (i := 3) (d := 17) rfl (hd ⟨3, .data⟩ (by simp) rfl)
   have CV : ρ (.tmp 17) = .pointer (some ⟨bq, 2, none⟩) := e1
   clear e1
   refine ae (v := .slice ra T.rules.length rc) (w' := X) ?_ ⟨fun _ => hJ.put Ae.out bf (i := 4) (d := 18) rfl (Below.refl _ _) (rfl), fun e => by rw [an (by decide), Aa] at e; cases e⟩
   clear hd Ab hJ Ac hL Aa
   go_simp
 · intro ρ X L hc hf hL hd Ab Ac
   have Aa : L 16 = false := am (by kernel_rfl) Ab (k := 5) (by simp) hL
   have hJ := Ac.1 Aa
   obtain ⟨c0, c2⟩ := Af.out X hJ.low
   obtain ⟨_, _, _, e1⟩ := hJ.get (i := 4) (d := 18) rfl (hd ⟨4, .data⟩ (by simp) rfl)
   have Dl : ρ (.tmp 18) = .slice ra T.rules.length rc := e1
   clear e1
   refine ae (v := .int .i64 T.rules.length) (w' := X) ?_ ⟨fun _ => hJ.put Ae.out bf (i := 5) (d := 19) rfl (Below.refl _ _) (rfl), fun e => by rw [an (by decide), Aa] at e; cases e⟩
   clear hd Ab hJ Ac hL Aa
   go_simp
 · intro ρ X L hc hf hL hd Ab Ac
   have Aa : L 16 = false := am (by kernel_rfl) Ab (k := 6) (by simp) hL
   have hJ := Ac.1 Aa
   obtain ⟨c0, c2⟩ := Af.out X hJ.low
   obtain ⟨_, _, _, e1⟩ := hJ.get (i := 5) (d := 19) rfl (hd ⟨5, .data⟩ (by simp) rfl)
   have CZ : ρ (.tmp 19) = .int .i64 T.rules.length := e1
   have Bv := BD X
   clear e1
   refine ae (v := sl X.heap.size T.rules.length) (w' := X.alloc (.cells (Array.replicate T.rules.length (.int .i64 0)) 3)) ?_ ⟨fun _ => hJ.put Ae.out bf (i := 6) (d := 20) rfl (ac X _) (⟨X.heap.size, rfl, by unfold Fx; rw [heap_alloc_new, ju], Nat.le_refl _, by simp, hJ.low.size⟩), fun e => by rw [an (by decide), Aa] at e; cases e⟩
   clear hd Ab hJ Ac hL Aa
   go_simp
 · intro ρ X L hc hf hL hd Ab Ac
   have Aa : L 16 = false := am (by kernel_rfl) Ab (k := 7) (by simp) hL
   have hJ := Ac.1 Aa
   obtain ⟨c0, c2⟩ := Af.out X hJ.low
   have k3 : ρ (.tmp 3) = aa bq := hJ.base (3, aa bq) (by simp)
   refine ae (v := .pointer (some ⟨bq, 2, none⟩)) (w' := X) ?_ ⟨fun _ => hJ.put Ae.out bf (i := 7) (d := 21) rfl (Below.refl _ _) (rfl), fun e => by rw [an (by decide), Aa] at e; cases e⟩
   clear hd Ab hJ Ac hL Aa
   go_simp
 · intro ρ X L hc hf hL hd Ab Ac
   have Aa : L 16 = false := am (by kernel_rfl) Ab (k := 8) (by simp) hL
   have hJ := Ac.1 Aa
   obtain ⟨c0, c2⟩ := Af.out X hJ.low
   obtain ⟨_, _, _, e1⟩ := hJ.get (i := 7) (d := 21) rfl (hd ⟨7, .data⟩ (by simp) rfl)
   have Dd : ρ (.tmp 21) = .pointer (some ⟨bq, 2, none⟩) := e1
   clear e1
   refine ae (v := .slice ra T.rules.length rc) (w' := X) ?_ ⟨fun _ => hJ.put Ae.out bf (i := 8) (d := 22) rfl (Below.refl _ _) (rfl), fun e => by rw [an (by decide), Aa] at e; cases e⟩
   clear hd Ab hJ Ac hL Aa
   go_simp
 · intro ρ X L hc hf hL hd Ab Ac
   have Aa : L 16 = false := am (by kernel_rfl) Ab (k := 9) (by simp) hL
   have hJ := Ac.1 Aa
   obtain ⟨c0, c2⟩ := Af.out X hJ.low
   obtain ⟨_, _, _, e1⟩ := hJ.get (i := 8) (d := 22) rfl (hd ⟨8, .data⟩ (by simp) rfl)
   have CP : ρ (.tmp 22) = .slice ra T.rules.length rc := e1
   clear e1
   refine ae (v := .int .i64 T.rules.length) (w' := X) ?_ ⟨fun _ => hJ.put Ae.out bf (i := 9) (d := 23) rfl (Below.refl _ _) (rfl), fun e => by rw [an (by decide), Aa] at e; cases e⟩
   clear hd Ab hJ Ac hL Aa
   go_simp
 · intro ρ X L hc hf hL hd Ab Ac
   have Aa : L 16 = false := am (by kernel_rfl) Ab (k := 10) (by simp) hL
   have hJ := Ac.1 Aa
   obtain ⟨c0, c2⟩ := Af.out X hJ.low
   obtain ⟨_, _, _, e1⟩ := hJ.get (i := 9) (d := 23) rfl (hd ⟨9, .data⟩ (by simp) rfl)
   have Dq : ρ (.tmp 23) = .int .i64 T.rules.length := e1
   have Bv := BP X
   clear e1
   refine ae (v := sl X.heap.size T.rules.length) (w' := X.alloc (.cells (Array.replicate T.rules.length (.bool false)) 4)) ?_ ⟨fun _ => hJ.put Ae.out bf (i := 10) (d := 24) rfl (ac X _) (⟨X.heap.size, rfl, by unfold Fx cU; rw [heap_alloc_new]; simp [List.map_const'], Nat.le_refl _, by simp, hJ.low.size⟩), fun e => by rw [an (by decide), Aa] at e; cases e⟩
   clear hd Ab hJ Ac hL Aa
   go_simp
 · intro ρ X L hc hf hL hd Ab Ac
   have Aa : L 16 = false := am (by kernel_rfl) Ab (k := 11) (by simp) hL
   have hJ := Ac.1 Aa
   obtain ⟨c0, c2⟩ := Af.out X hJ.low
   have k3 : ρ (.tmp 3) = aa bq := hJ.base (3, aa bq) (by simp)
   refine ae (v := aa bq) (w' := X) ?_ ⟨fun _ => hJ.put Ae.out bf (i := 11) (d := 25) rfl (Below.refl _ _) (rfl), fun e => by rw [an (by decide), Aa] at e; cases e⟩
   clear hd Ab hJ Ac hL Aa
   go_simp
 · intro ρ X L hc hf hL hd Ab Ac
   have Aa : L 16 = false := am (by kernel_rfl) Ab (k := 12) (by simp) hL
   have hJ := Ac.1 Aa
   obtain ⟨c0, c2⟩ := Af.out X hJ.low
   obtain ⟨_, _, _, e1⟩ := hJ.get (i := 11) (d := 25) rfl (hd ⟨11, .data⟩ (by simp) rfl)
   have Db : ρ (.tmp 25) = aa bq := e1
   clear e1
   refine ae (v := .int .i64 T.lits) (w' := X) ?_ ⟨fun _ => hJ.put Ae.out bf (i := 12) (d := 26) rfl (Below.refl _ _) (rfl), fun e => by rw [an (by decide), Aa] at e; cases e⟩
   clear hd Ab hJ Ac hL Aa
   go_simp
 · intro ρ X L hc hf hL hd Ab Ac
   have Aa : L 16 = false := am (by kernel_rfl) Ab (k := 13) (by simp) hL
   have hJ := Ac.1 Aa
   obtain ⟨c0, c2⟩ := Af.out X hJ.low
   obtain ⟨_, _, _, e1⟩ := hJ.get (i := 12) (d := 26) rfl (hd ⟨12, .data⟩ (by simp) rfl)
   have CX : ρ (.tmp 26) = .int .i64 T.lits := e1
   have Bv := BH X
   clear e1
   refine ae (v := sl X.heap.size n) (w' := X.alloc (.cells (Array.replicate n (.int .i64 0)) 3)) ?_ ⟨fun _ => hJ.put Ae.out bf (i := 13) (d := 27) rfl (ac X _) (⟨X.heap.size, rfl, by unfold Fx; rw [heap_alloc_new, ju], Nat.le_refl _, by simp, hJ.low.size⟩), fun e => by rw [an (by decide), Aa] at e; cases e⟩
   clear hd Ab hJ Ac hL Aa
   go_simp
 · intro ρ X L hc hf hL hd Ab Ac
   have Aa : L 16 = false := am (by kernel_rfl) Ab (k := 14) (by simp) hL
   have hJ := Ac.1 Aa
   obtain ⟨c0, c2⟩ := Af.out X hJ.low
   obtain ⟨lo, hi, AS, Bk⟩ := hJ.at_
   have l2 : L 2 = true := hd ⟨2, .data⟩ (by simp) rfl
   have l6 : L 6 = true := hd ⟨6, .data⟩ (by simp) rfl
   have Cr : L 10 = true := hd ⟨10, .data⟩ (by simp) rfl
   have BS : L 13 = true := hd ⟨13, .data⟩ (by simp) rfl
   obtain ⟨-, -, -, g0, e3, f3, a3, b3, n3⟩ := AS 2 16 rfl l2
   obtain ⟨-, -, -, g1, e6, f6, a6, b6, n6⟩ := AS 6 20 rfl l6
   obtain ⟨-, -, -, g2, e9, f9, a9, b9, n9⟩ := AS 10 24 rfl Cr
   obtain ⟨-, -, -, g3, BJ, BT, Do, CO, Cg⟩ := AS 13 27 rfl BS
   have d1 := Bk 6 13 20 27 rfl rfl (by decide) l6 BS
   have Dc : ρ (.tmp 16) = sl g0 n := e3
   have Di : ρ (.tmp 20) = sl g1 T.rules.length := e6
   have CS : ρ (.tmp 24) = sl g2 T.rules.length := e9
   have CM : ρ (.tmp 27) = sl g3 n := BJ
   refine ae (v := .agg #[sl g0 n, sl g1 T.rules.length, sl g2 T.rules.length, sl g3 n]) (w' := X) ?_ ⟨fun _ => hJ.put Ae.out bf (i := 14) (d := 28) rfl (Below.refl _ _) (⟨g0, g1, g2, g3, rfl, f3, f6, f9, BT, ⟨n3, n6, n9, Cg⟩, by omega⟩), fun e => by rw [an (by decide), Aa] at e; cases e⟩
   clear hd Ab hJ Ac hL Aa AS Bk d1 e3 e6 e9 BJ f3 f6 f9 BT
   go_simp
 · intro ρ X L hc hf hL hd Ab Ac
   have Aa : L 16 = false := am (by kernel_rfl) Ab (k := 15) (by simp) hL
   have hJ := Ac.1 Aa
   obtain ⟨c0, c2⟩ := Af.out X hJ.low
   refine ae (v := aa X.heap.size) (w' := X.alloc (.cells #[.slice none 0 0, .slice none 0 0, .slice none 0 0, .slice none 0 0] 178)) ?_ ⟨fun _ => hJ.put Ae.out bf (i := 15) (d := 7) rfl (ac X _) (⟨X.heap.size, [.slice none 0 0, .slice none 0 0, .slice none 0 0, .slice none 0 0], rfl, heap_alloc_new X _, rfl, hJ.low.size⟩), fun e => by rw [an (by decide), Aa] at e; cases e⟩
   clear hd Ab hJ Ac hL Aa
   go_simp
 · intro ρ X L hc hf hL hd Ab Ac
   have hJ := Ac.1 hL
   obtain ⟨_, _, _, g0, g1, g2, g3, BX, f0, f1, f2, f3, ⟨m0, m1, m2, m3⟩, d1⟩ := hJ.get (i := 14) (d := 28) rfl (hd ⟨14, .data⟩ (by simp) rfl)
   obtain ⟨_, _, _, q, xs, e7, h0, Cv, hq⟩ := hJ.get (i := 15) (d := 7) rfl (hd ⟨15, .data⟩ (by simp) rfl)
   obtain ⟨t0, t1, t2, t3, rfl⟩ : ∃ t0 t1 t2 t3, xs = [t0, t1, t2, t3] := by
    match xs, Cv with
    | [t0, t1, t2, t3], _ => exact ⟨t0, t1, t2, t3, rfl⟩
   have CY : ρ (.tmp 28) = .agg #[sl g0 n, sl g1 T.rules.length, sl g2 T.rules.length, sl g3 n] := BX
   have k7 : ρ (.tmp 7) = aa q := e7
   have y0 := h0.get (i := 0) (v := t0) rfl
   have z0 := h0.frz 0
   have h1 := h0.set 0 (sl g0 n)
   have y1 := h1.get (i := 1) (v := t1) rfl
   have z1 := h1.frz 1
   have h2 := h1.set 1 (sl g1 T.rules.length)
   have y2 := h2.get (i := 2) (v := t2) rfl
   have z2 := h2.frz 2
   have h3 := h2.set 2 (sl g2 T.rules.length)
   have y3 := h3.get (i := 3) (v := t3) rfl
   have z3 := h3.frz 3
   have h4 := h3.set 3 (sl g3 n)
   have kp : ∀ {g t : Nat} {xs : List Value}, Fx g t xs X → t ≠ 178 → Fx g t xs ((((X.setCell ⟨q, 0, none⟩ (sl g0 n)).setCell ⟨q, 1, none⟩ (sl g1 T.rules.length)).setCell ⟨q, 2, none⟩ (sl g2 T.rules.length)).setCell ⟨q, 3, none⟩ (sl g3 n)) := fun hx ht => by
    have CA := aq hx h0 ht
    exact hx.keep (by simp only [other_set CA])
   have AH : Hid (uf T.rules.length n W0 (fY (fun s => ρ (.tmp s)) none undef) ((((X.setCell ⟨q, 0, none⟩ (sl g0 n)).setCell ⟨q, 1, none⟩ (sl g1 T.rules.length)).setCell ⟨q, 2, none⟩ (sl g2 T.rules.length)).setCell ⟨q, 3, none⟩ (sl g3 n))) := hide ⟨q, g0, g1, g2, g3, by rw [fi (by simp)]; exact k7, ⟨h4, kp f1 (by decide), kp f2 (by decide), kp f3 (by decide), rP (kp f0 (by decide)) m0, ⟨hq, m1, m2, m3⟩, d1, fun i v hv => by rw [List.getElem?_replicate] at hv; split at hv <;> cases hv; exact ⟨fun e => (by cases e), fun e => (by cases e)⟩⟩, ((((hJ.low.setCell (p := ⟨q, 0, none⟩) hq _).setCell (p := ⟨q, 1, none⟩) hq _).setCell (p := ⟨q, 2, none⟩) hq _).setCell (p := ⟨q, 3, none⟩) hq _)⟩
   refine bV (w' := ((((X.setCell ⟨q, 0, none⟩ (sl g0 n)).setCell ⟨q, 1, none⟩ (sl g1 T.rules.length)).setCell ⟨q, 2, none⟩ (sl g2 T.rules.length)).setCell ⟨q, 3, none⟩ (sl g3 n))) ?_ ⟨fun e => (by rw [aL] at e; cases e), fun _ => AH.out⟩
   clear hd Ab hJ Ac hL kp AH f0 f1 f2 f3 h1 h2 h3 h4 h0 BX e7
   go_simp
 · intro c a' w' _ hE
   exact hE.elim
 · rintro ⟨Ad, df⟩ w' At AV ⟨L, hL, hJ⟩ Ay
   simp only at AV At
   subst AV
   obtain ⟨q, us, ms, rr, op, e7, Ca, BU⟩ := hJ.2 (hL 16 (by decide))
   have e7 : Ad.getD 7 undef = aa q := e7
   have AA := eq 14 28 7 (by kernel_rfl) At Ay
   simp only [zs, Nat.reduceLT, Nat.reduceAdd, true_or, or_true, or_self, false_and, ne_eq, Nat.reduceEqDiff, not_false_eq_true, not_true_eq_false, and_self, and_false, if_true, if_false, e7] at AA
   rw [AA]
   clear AA hJ hL Ay At e7 BF BP BH BD Af Ae
   generalize Ad.getD 14 undef = x14
   generalize Ad.getD 15 undef = x15
   generalize Ad.getD 16 undef = x16
   generalize Ad.getD 17 undef = x17
   generalize Ad.getD 18 undef = x18
   generalize Ad.getD 19 undef = x19
   generalize Ad.getD 20 undef = x20
   generalize Ad.getD 21 undef = x21
   generalize Ad.getD 22 undef = x22
   generalize Ad.getD 23 undef = x23
   generalize Ad.getD 24 undef = x24
   generalize Ad.getD 25 undef = x25
   generalize Ad.getD 26 undef = x26
   generalize Ad.getD 27 undef = x27
   generalize Ad.getD 28 undef = x28
   have Ak := hide Ca
   have Aw : Hid (Below W.heap.size W w') := hide (HDr.out.trans (BU.mono HDr.out.size))
   have Bu : W0.heap.size = W.heap.size := by rw [← By]; rfl
   rw [Bu] at Ak
   clear Ca BU Bu HDr HX1d
   have c2 := (Au.out.keep (Aw.out.block _ Au.out.lt)).get (i := 2) rfl
   go_wp2_with fail
   clear c2
   go_loopw [32] (fun x wr => ∃ (k : Nat) (H : Nat → List (List Int)) (vs : Nat → List Value), k ≤ T.rules.length ∧ x = .int .i64 k ∧ Hid (Gu T kA n k 0 H) ∧ Hid (Nw W.heap.size q us ms rr op n T.rules.length (eA T kA k) (opK T kT k) H vs wr) ∧ Hid (Below W.heap.size W wr)) (fun x _ => T.rules.length - (intOf x).toNat)
   case atStart => exact ⟨0, _, _, by omega, rfl, hide Gu.start, Ak, Aw⟩
   case round =>
    clear Ak Aw
    obtain ⟨k, H, vs, hk, rfl, HG, HN, HBr⟩ := hrel
    by_cases Ax : k < T.rules.length
    · obtain ⟨r, hr⟩ := ap Ax
      obtain ⟨h0, h1⟩ := HP.out.head r (List.mem_of_getElem? hr)
      obtain ⟨hm, Az⟩ := Int.eq_ofNat_of_zero_le h0
      have AK : hm < n := by omega
      have AU : aj T k = (hm : Int) := by unfold aj; rw [Int.toNat_natCast, hr]; exact Az
      have BR : aF T kA k = kA r := by unfold aF; rw [Int.toNat_natCast, hr]; rfl
      have AR : aF T kT k = kT r := by unfold aF; rw [Int.toNat_natCast, hr]; rfl
      have AT : aA T k = r.body := by unfold aA; rw [Int.toNat_natCast, hr]; rfl
      have hR := TR.keep HBr.out.block Bg.out
      obtain ⟨gr, go, bd, bp, rfl, Bs, x0, x1, x2, -, BN, AJ⟩ := dG hR.rules hr
      have CJ : r.body.length ≤ 16 := (HP.out.ok.rule r (List.mem_of_getElem? hr)).2.2.2.2.1
      have CC : Hid r.body.Nodup := hide (dj (bP (by omega) (HP.out.ok.rule r (List.mem_of_getElem? hr)).2.2.2.2.2).2)
      have Cn : Hid (∀ x ∈ r.body, 0 ≤ x ∧ x < (n : Int)) := hide (HP.out.body r (List.mem_of_getElem? hr))
      have CB : Hid (∀ X, Below W.heap.size W X → At1 X bd (ay r.body)) := hide fun X hX => by
       have h2 := TR.keep hX.block Bg.out
       obtain ⟨g3, o3, b3, p3, e3, Cb, -, -, x3, -, -, Cu⟩ := dG h2.rules hr
       cases e3
       have e4 : wr.cell? ⟨gr, go + k * 3 + 2, none⟩ = X.cell? ⟨gr, go + k * 3 + 2, none⟩ := (World.cell?_of_block (HBr.out.block gr Cb)).trans (World.cell?_of_block (hX.block gr Cb)).symm
       rw [x2, x3] at e4
       cases e4
       exact Cu.at1
      rw [Az] at x1
      have As := ac wr (.cells #[.int .i64 r.kind, .int .i64 hm, .slice bd r.body.length bp] 114)
      have HQ : Hid (Fx wr.heap.size 114 [.int .i64 r.kind, .int .i64 hm, .slice bd r.body.length bp] (wr.alloc (.cells #[.int .i64 r.kind, .int .i64 hm, .slice bd r.body.length bp] 114))) := hide (heap_alloc_new wr _)
      have HNq := hide (HN.out.go As)
      have HBq := hide (HBr.out.trans (As.mono HBr.out.size))
      have HRr := hide hr
      have Bz := hide AU
      have Cj := hide BR
      have AF := hide AR
      have Be := hide AT
      have HL := hide Ax
      clear hr h0 h1 Az hR As AJ HN HBr Bs AU BR AR AT
      go_upto_region 5 with fail
      clear x0 x1 x2
      generalize wr.alloc (.cells #[.int .i64 r.kind, .int .i64 hm, .slice bd r.body.length bp] 114) = wq at *
      obtain ⟨qr, AN⟩ : ∃ qr, wr.heap.size = qr := ⟨_, rfl⟩
      rw [AN] at HQ ⊢
      clear AN
      have q0 := HQ.out.get (i := 0) rfl
      have q1 := HQ.out.get (i := 1) rfl
      have q2 := HQ.out.get (i := 2) rfl
      have CW := hide (uN (w := wq) (k := r.kind) (h := (hm : Int)) (v := .slice bd r.body.length bp))
      have BI : Hid (kA r = true) := hide rfl
      have BC : Hid (eA T kA (k + 1) = az (eA T kA k) k (r.body.length : Nat)) := hide (by rw [lL, Cj.out, Be.out, if_pos BI.out])
      go_upto_region 6 with (go_at_call 175; refine CW.out.mono ?_; rintro _ w3 ⟨rfl, hb⟩; have AC := hide hb; clear hb)
      have AB := hide (HNq.out.go AC.out)
      have AD := hide (HQ.out.keep (AC.out.block _ HQ.out.lt))
      have BM := hide (HBq.out.trans (AC.out.mono HBq.out.size))
      clear HNq HQ HBq AC q0 q1 q2 CW
      have s1 := AB.out.bx.get (i := 1) rfl
      have q2 := AD.out.get (i := 2) rfl
      have cm := AB.out.fm.get (bz HL.out)
      have zm := AB.out.fm.frz k
      have Bq := hide (AB.out.setM HL.out (r.body.length : Nat))
      have Br := hide (AD.out.keep (w' := w3.setCell ⟨ms, k, none⟩ (.int .i64 (r.body.length : Nat))) (other_set (aq AD.out AB.out.fm (by decide))))
      have BE := hide (BM.out.setCell (p := ⟨ms, k, none⟩) AB.out.lo.2.1 (.int .i64 (r.body.length : Nat)))
      have q2' := Br.out.get (i := 2) rfl
      obtain ⟨AZ, Bj⟩ : ∃ AZ, az (eA T kA k) k (r.body.length : Nat) = AZ := ⟨_, rfl⟩
      rw [Bj] at Bq BC
      clear AB AD BM Bj
      go_wp2_with fail
      clear s1 q2 cm zm q2'
      go_loopw [51] (fun x wr => ∃ (j : Nat) (H : Nat → List (List Int)) (vs : Nat → List Value), j ≤ r.body.length ∧ x = .int .i64 j ∧ Hid (Gu T kA n k j H) ∧ Hid (Nw W.heap.size q us ms rr op n T.rules.length AZ (opK T kT k) H vs wr) ∧ Hid (Below W.heap.size W wr) ∧ Hid (Fx qr 114 [.int .i64 r.kind, .int .i64 hm, .slice bd r.body.length bp] wr)) (fun x _ => r.body.length - (intOf x).toNat)
      case atStart => exact ⟨0, _, _, by omega, rfl, HG, Bq, BE, Br⟩
      case round =>
       clear HG Bq BE Br
       rename World => wr3
       obtain ⟨j, H, vs, hj, rfl, HG, HN, HBq, HQ⟩ := hrel
       by_cases hjl : j < r.body.length
       · obtain ⟨x0, hx⟩ := ap hjl
         obtain ⟨y0, y1⟩ := Cn.out x0 (List.mem_of_getElem? hx)
         obtain ⟨x, rfl⟩ := Int.eq_ofNat_of_zero_le y0
         have Bx : x < n := by omega
         obtain ⟨gx, ox, rfl, cx⟩ := (CB.out wr3 HBq.out).get hx
         have HXx := hide hx
         have Cd : Hid (∀ (c i : Nat) (l : List Int), c < 1 → (H c)[i]? = some l → l.length ≤ 4096) := hide fun c i l hc hl => HG.out.len (by have := HL.out; omega) (z := i) (by rw [← (show c = 0 by omega)]; exact hl)
         clear hx y0 y1
         go_upto_region 10 with fail
         have AI := (Below.refl wr3.heap.size wr3).drew
         have HNd0 := hide (HN.out.go AI)
         have HQd0 := hide (HQ.out.keep (AI.block _ HQ.out.lt))
         have HBd0 := hide (HBq.out.trans (AI.mono HBq.out.size))
         obtain ⟨wd, Bw⟩ : ∃ wd, wr3.drew = wd := ⟨_, rfl⟩
         rw [Bw] at HNd0 HQd0 HBd0
         obtain ⟨l0, Am, An, Bo, BQ, Bb, Av⟩ := HNd0.out.h3.at (c := 0) (by omega) (show x < n from Bx)
         have Bb : wd.cell? ⟨us, x, none⟩ = some (.slice Am l0.length An) := Bb
         have CK : l0.length ≤ 4096 := Cd.out 0 _ _ (by omega) Bo
         have AM := ac wd (.cells #[.int .i64 k] 3)
         have Bf : W.heap.size ≤ wd.heap.size := HBd0.out.size
         obtain ⟨Ar, Al, w2, BG, Bc, Ah, BB, Cf⟩ := run_append_lies (P := Tryz.prog) (wd.alloc (.cells #[.int .i64 k] 3)) 26 26 W.heap.size 3 iI _ 1 8 Tryz.underlying26 BA Bl Bp Bm rfl (by decide) (.slice Am l0.length An) l0.length (ay l0) (owns_keep Av fun g hg => AM.block g (aD Av hg)) ⟨wd.heap.size, 0, none⟩ 1 1 [.int .i64 k] rfl (World.news_of_block (cs := [.int .i64 k].toArray) (t := 3) (fr := (0, 0)) (heap_alloc_new wd (.cells #[.int .i64 k] 3))) (by simp [Value.oneCell']) (by decide) (by unfold maxLen; omega) (by omega) (by simp; omega) (wd.heap.size + 1) (by simp)
         have BW := hide BG
         have Ap : ∀ k, k < wd.heap.size → Value.ownBlock (.slice Am l0.length An) ≠ some k → w2.heap[k]? = wd.heap[k]? := fun k hk hn => (Ah.block k (by simp; omega) fun e => hn e.symm).trans (AM.block k hk)
         have AW := aw Av (HNd0.out.h3.fx 0 (by omega)) (by decide)
         have AX := aw Av HQd0.out (by decide)
         have Bh := aw Av HNd0.out.bx (by decide)
         obtain ⟨w3, AP⟩ : ∃ w3, w2.setCell ⟨us, x, none⟩ (.slice (some ⟨Ar, 0, none⟩) (l0.length + 1) Al) = w3 := ⟨_, rfl⟩
         have BY := hide AP
         have HN0a : Hid (Nw W.heap.size q us ms rr op n T.rules.length AZ (opK T kT k) (up H 0 ((H 0).set x (l0 ++ [(k : Int)]))) (up vs 0 ((vs 0).set x (.slice (some ⟨Ar, 0, none⟩) (l0.length + 1) Al))) w3) := hide (by rw [← AP]; exact HNd0.out.add (c := 0) (by omega) Bo BQ Bc Ap (by rcases BB with h | h; exact .inl h; exact .inr (by omega)))
         have AD : Hid (Fx qr 114 [.int .i64 r.kind, .int .i64 hm, .slice (some ⟨gx, ox, none⟩) r.body.length bp] w3) := hide (by rw [← AP]; exact (HQd0.out.keep (Ap _ HQd0.out.lt AX)).keep (other_set (aq HQd0.out (HNd0.out.h3.fx 0 (by omega)) (by decide))))
         have AC : Hid (Below W.heap.size W w3) := hide (by rw [← AP]; exact (HBd0.out.trans (show Below W.heap.size wd w2 from (AM.mono Bf).trans ⟨Ah.os, Ah.tape, Ah.output, Ah.size, fun k hk => Ah.block k (by simp; omega) fun e => by have := (Av.lt k e.symm).1; omega⟩)).setCell (p := ⟨us, x, none⟩) (HNd0.out.h3.lo 0 (by omega)) (.slice (some ⟨Ar, 0, none⟩) (l0.length + 1) Al))
         have Bd : ∀ {a : Addr} {v : Value}, wd.cell? a = some v → Value.ownBlock (.slice Am l0.length An) ≠ some a.block → ∀ X, X = wd ∨ X = wd.alloc (.cells #[.int .i64 k] 3) ∨ X = w2 → X.cell? a = some v := fun ha hn X hX => by
          have Ax := World.block_lt_of_cell? wd _ ha
          rcases hX with rfl | rfl | rfl
          · exact ha
          · exact ar ha AM
          · exact (World.cell?_of_block (Ap _ Ax hn)).trans ha
         have LH := hide (Bd (HNd0.out.bx.get (i := 0) (v := sl us n) rfl) Bh)
         have LQ := hide (Bd (HQd0.out.get (i := 1) rfl) AX)
         have LR := hide (Bd Bb AW)
         have q1 : w2.cell? ⟨us, x, none⟩ = some (.slice Am l0.length An) := LR.out w2 (.inr (.inr rfl))
         have q2 : w2.frozen? ⟨us, x, none⟩ = false := ((HNd0.out.h3.fx 0 (by omega)).keep (Ap _ (HNd0.out.h3.fx 0 (by omega)).lt AW)).frz x
         have Aj : Hid (gi ([some (55, .pointer (some ⟨q, 0, none⟩)), some (56, sl us n), some (57, .int .i64 x), some (58, .pointer (some ⟨q, 0, none⟩)), some (59, sl us n), some (60, .int .i64 x), some (61, .pointer (some ⟨us, x, none⟩)), some (62, .slice Am l0.length An), some (63, .int .i64 k), some (64, .slice (some ⟨wd.heap.size, 0, none⟩) 1 1), some (65, .slice (some ⟨Ar, 0, none⟩) (l0.length + 1) Al), some (66, .pointer (some ⟨us, x, none⟩)), none].map fun p : Option (Nat × Value) => p.map Prod.fst) [(7, aa q), (11, .int .i64 x), (8, .int .i64 k)] = true) := hide rfl
         clear HN HQ HBq Bb Ah Bc BG AX Bh AW BQ BB Cf Bd Ap AM Av HNd0 HQd0 HBd0 Bf AI AP
         refine bZ ga (Jt [some (55, .pointer (some ⟨q, 0, none⟩)), some (56, sl us n), some (57, .int .i64 x), some (58, .pointer (some ⟨q, 0, none⟩)), some (59, sl us n), some (60, .int .i64 x), some (61, .pointer (some ⟨us, x, none⟩)), some (62, .slice Am l0.length An), some (63, .int .i64 k), some (64, .slice (some ⟨wd.heap.size, 0, none⟩) 1 1), some (65, .slice (some ⟨Ar, 0, none⟩) (l0.length + 1) Al), some (66, .pointer (some ⟨us, x, none⟩)), none] [(7, aa q), (11, .int .i64 x), (8, .int .i64 k)] (gh 9 10 12 wd (wd.alloc (.cells #[.int .i64 k] 3)) w2 w3)) (by kernel_rfl) (by kernel_rfl) ?_ (cC ⟨?_, ?_, ?_, ?_, ?_, ?_, ?_, ?_, ?_, ?_, ?_, ?_, ?_, trivial⟩) ?_ ?_
         · exact ⟨fun p hp => by simp at hp; rcases hp with rfl | rfl | rfl <;> rfl, fun i d v _ hL => (by cases hL), Bw⟩
         · intro ρ X L hc hf hL hd Ab hJ
           have k7 : ρ (.tmp 7) = aa q := hJ.base (7, aa q) (by simp)
           refine ae (v := .pointer (some ⟨q, 0, none⟩)) (w' := X) ?_ (hJ.put Aj.out rfl (by rw [au (by decide) (by decide) (by decide)]; exact hJ.wd))
           clear hd Ab hJ hL
           go_simp
         · intro ρ X L hc hf hL hd Ab hJ
           have De : ρ (.tmp 55) = .pointer (some ⟨q, 0, none⟩) := hJ.vals 0 55 (.pointer (some ⟨q, 0, none⟩)) rfl (hd ⟨0, .data⟩ (by simp) rfl)
           have Ai : L 12 = false := am (by kernel_rfl) Ab (k := 1) (by simp) hL
           have hx := LH.out X (bA hJ.wd Ai)
           clear Ai
           refine ae (v := sl us n) (w' := X) ?_ (hJ.put Aj.out rfl (by rw [au (by decide) (by decide) (by decide)]; exact hJ.wd))
           clear hd Ab hJ hL
           go_simp
         · intro ρ X L hc hf hL hd Ab hJ
           have Cs : ρ (.tmp 11) = .int .i64 x := hJ.base (11, .int .i64 x) (by simp)
           refine ae (v := .int .i64 x) (w' := X) ?_ (hJ.put Aj.out rfl (by rw [au (by decide) (by decide) (by decide)]; exact hJ.wd))
           clear hd Ab hJ hL
           go_simp
         · intro ρ X L hc hf hL hd Ab hJ
           have k7 : ρ (.tmp 7) = aa q := hJ.base (7, aa q) (by simp)
           refine ae (v := .pointer (some ⟨q, 0, none⟩)) (w' := X) ?_ (hJ.put Aj.out rfl (by rw [au (by decide) (by decide) (by decide)]; exact hJ.wd))
           clear hd Ab hJ hL
           go_simp
         · intro ρ X L hc hf hL hd Ab hJ
           have Df : ρ (.tmp 58) = .pointer (some ⟨q, 0, none⟩) := hJ.vals 3 58 (.pointer (some ⟨q, 0, none⟩)) rfl (hd ⟨3, .data⟩ (by simp) rfl)
           have Ai : L 12 = false := am (by kernel_rfl) Ab (k := 4) (by simp) hL
           have hx := LH.out X (bA hJ.wd Ai)
           clear Ai
           refine ae (v := sl us n) (w' := X) ?_ (hJ.put Aj.out rfl (by rw [au (by decide) (by decide) (by decide)]; exact hJ.wd))
           clear hd Ab hJ hL
           go_simp
         · intro ρ X L hc hf hL hd Ab hJ
           have Cs : ρ (.tmp 11) = .int .i64 x := hJ.base (11, .int .i64 x) (by simp)
           refine ae (v := .int .i64 x) (w' := X) ?_ (hJ.put Aj.out rfl (by rw [au (by decide) (by decide) (by decide)]; exact hJ.wd))
           clear hd Ab hJ hL
           go_simp
         · intro ρ X L hc hf hL hd Ab hJ
           have Dj : ρ (.tmp 59) = sl us n := hJ.vals 4 59 (sl us n) rfl (hd ⟨4, .data⟩ (by simp) rfl)
           have Dh : ρ (.tmp 60) = .int .i64 x := hJ.vals 5 60 (.int .i64 x) rfl (hd ⟨5, .data⟩ (by simp) rfl)
           refine ae (v := .pointer (some ⟨us, x, none⟩)) (w' := X) ?_ (hJ.put Aj.out rfl (by rw [au (by decide) (by decide) (by decide)]; exact hJ.wd))
           clear hd Ab hJ hL
           go_simp
         · intro ρ X L hc hf hL hd Ab hJ
           have CT : ρ (.tmp 61) = .pointer (some ⟨us, x, none⟩) := hJ.vals 6 61 (.pointer (some ⟨us, x, none⟩)) rfl (hd ⟨6, .data⟩ (by simp) rfl)
           have Ai : L 12 = false := am (by kernel_rfl) Ab (k := 7) (by simp) hL
           have hx := LR.out X (bA hJ.wd Ai)
           clear Ai
           refine ae (v := .slice Am l0.length An) (w' := X) ?_ (hJ.put Aj.out rfl (by rw [au (by decide) (by decide) (by decide)]; exact hJ.wd))
           clear hd Ab hJ hL
           go_simp
         · intro ρ X L hc hf hL hd Ab hJ
           have k8 : ρ (.tmp 8) = .int .i64 k := hJ.base (8, .int .i64 k) (by simp)
           refine ae (v := .int .i64 k) (w' := X) ?_ (hJ.put Aj.out rfl (by rw [au (by decide) (by decide) (by decide)]; exact hJ.wd))
           clear hd Ab hJ hL
           go_simp
         · intro ρ X L hc hf hL hd Ab hJ
           have CN : ρ (.tmp 63) = .int .i64 k := hJ.vals 8 63 (.int .i64 k) rfl (hd ⟨8, .data⟩ (by simp) rfl)
           have AE : L 10 = false := by cases e : L 10 with | false => rfl | true => (have := Ab 10 _ rfl e ⟨9, .data⟩ (by simp) rfl; rw [show (⟨9, .data⟩ : Edge).on = 9 from rfl] at this; rw [hL] at this; cases this)
           have Ai : L 12 = false := am (by kernel_rfl) Ab (k := 9) (by simp) hL
           have hX := hJ.wd.trans (jV hL AE Ai)
           refine ae (v := .slice (some ⟨wd.heap.size, 0, none⟩) 1 1) (w' := wd.alloc (.cells #[.int .i64 k] 3)) ?_ (hJ.put Aj.out rfl ((eD aL (by rw [an (by decide)]; exact AE) (by rw [an (by decide)]; exact Ai)).symm))
           subst hX
           clear hd Ab hJ hL AE Ai
           go_simp
         · intro ρ X L hc hf hL hd Ab hJ
           have Cl : ρ (.tmp 62) = .slice Am l0.length An := hJ.vals 7 62 (.slice Am l0.length An) rfl (hd ⟨7, .data⟩ (by simp) rfl)
           have CG : ρ (.tmp 64) = .slice (some ⟨wd.heap.size, 0, none⟩) 1 1 := hJ.vals 9 64 (.slice (some ⟨wd.heap.size, 0, none⟩) 1 1) rfl (hd ⟨9, .data⟩ (by simp) rfl)
           have Cw : L 9 = true := hd ⟨9, .data⟩ (by simp) rfl
           have Ai : L 12 = false := am (by kernel_rfl) Ab (k := 10) (by simp) hL
           have hX := hJ.wd.trans (eD Cw hL Ai)
           refine eU _ _ 26 rfl Cl CG (u := .slice (some ⟨Ar, 0, none⟩) (l0.length + 1) Al) (w' := w2) (by rw [hX]; exact BW.out) (hJ.put Aj.out rfl ((eE aL (by rw [an (by decide)]; exact Ai)).symm))
         · intro ρ X L hc hf hL hd Ab hJ
           have Dp : ρ (.tmp 56) = sl us n := hJ.vals 1 56 (sl us n) rfl (hd ⟨1, .data⟩ (by simp) rfl)
           have CQ : ρ (.tmp 57) = .int .i64 x := hJ.vals 2 57 (.int .i64 x) rfl (hd ⟨2, .data⟩ (by simp) rfl)
           refine ae (v := .pointer (some ⟨us, x, none⟩)) (w' := X) ?_ (hJ.put Aj.out rfl (by rw [au (by decide) (by decide) (by decide)]; exact hJ.wd))
           clear hd Ab hJ hL
           go_simp
         · intro ρ X L hc hf hL hd Ab hJ
           have Dm : ρ (.tmp 66) = .pointer (some ⟨us, x, none⟩) := hJ.vals 11 66 (.pointer (some ⟨us, x, none⟩)) rfl (hd ⟨11, .data⟩ (by simp) rfl)
           have CR : ρ (.tmp 65) = .slice (some ⟨Ar, 0, none⟩) (l0.length + 1) Al := hJ.vals 10 65 (.slice (some ⟨Ar, 0, none⟩) (l0.length + 1) Al) rfl (hd ⟨10, .data⟩ (by simp) rfl)
           have AE : L 10 = true := hd ⟨10, .data⟩ (by simp) rfl
           have hX := hJ.wd.trans (eE AE hL)
           refine bV (w' := w3) ?_ (hJ.last rfl ((eB aL).symm))
           subst hX
           clear hd Ab hJ hL AE
           rw [← BY.out]
           go_simp
         · intro c a' w' _ hE
           exact hE.elim
         · rintro ⟨Ad, df⟩ w' At AV ⟨L, hL, hJ⟩ Ay
           simp only at AV At
           subst AV
           have Cq : w3 = w' := (hJ.wd.trans (eB (hL 12 (by decide)))).symm
           subst Cq
           have AA := dD 55 66 (by kernel_rfl) At Ay
           simp only [zr, Nat.reduceLT, Nat.reduceAdd, true_or, or_true, or_self, if_true, if_false] at AA
           rw [AA]
           clear AA hJ hL Ay At Aj BW BY LH LQ LR q1 q2 Bw
           generalize Ad.getD 55 undef = x55
           generalize Ad.getD 56 undef = x56
           generalize Ad.getD 57 undef = x57
           generalize Ad.getD 58 undef = x58
           generalize Ad.getD 59 undef = x59
           generalize Ad.getD 60 undef = x60
           generalize Ad.getD 61 undef = x61
           generalize Ad.getD 62 undef = x62
           generalize Ad.getD 63 undef = x63
           generalize Ad.getD 64 undef = x64
           generalize Ad.getD 65 undef = x65
           generalize Ad.getD 66 undef = x66
           have Ba := hide (HG.out.add HRr.out CC.out HXx.out Bx Bo)
           go_wp2_with fail
           go_roundw
           case rel => exact ⟨j + 1, _, _, by omega, by go_num, Ba, HN0a, AC, AD⟩
           case measure => simp [intOf]; omega
       · have Ba := hide (HG.out.next HRr.out BI.out (by omega))
         have q0 := HQ.out.get (i := 0) rfl
         have q1 := HQ.out.get (i := 1) rfl
         have q2 := HQ.out.get (i := 2) rfl
         have CL := hide (eQ (w := wr3) (k := r.kind) (h := (hm : Int)) (v := .slice bd r.body.length bp))
         cases htk : decide (r.kind = 3) with
         | true =>
          have Aq : Hid (kT r = false) := hide (by unfold kT; rw [htk]; rfl)
          rw [htk] at CL
          clear htk
          have Ao : Hid (opK T kT (k + 1) = opK T kT k) := hide (by rw [jz, AF.out, if_neg (by rw [Aq.out]; decide)])
          go_wp2_with (go_at_call 176; refine CL.out.mono ?_; rintro _ w5 ⟨rfl, hb⟩; have Ag := hide hb; clear hb)
          go_roundw
          case rel => exact ⟨k + 1, _, _, by have := HL.out; omega, by go_num, Ba, hide (by rw [BC.out, Ao.out]; exact HN.out.go Ag.out), hide (HBq.out.trans (Ag.out.mono HBq.out.size))⟩
          case measure => have := HL.out; simp [intOf]; omega
         | false =>
          have Aq : Hid (kT r = true) := hide (by unfold kT; rw [htk]; rfl)
          rw [htk] at CL
          clear htk
          have Ao : Hid (opK T kT (k + 1) = az (opK T kT k) hm (aH (opK T kT k hm))) := hide (by rw [jz, AF.out, if_pos Aq.out, Bz.out])
          go_upto_region 13 with (go_at_call 176; refine CL.out.mono ?_; rintro _ w5 ⟨rfl, hb⟩; have Ag := hide hb; clear hb)
          have AG := hide (HN.out.go Ag.out)
          have Cc := hide (HQ.out.keep (Ag.out.block _ HQ.out.lt))
          have BK := hide (HBq.out.trans (Ag.out.mono HBq.out.size))
          clear HN HQ HBq Ag q0 q1 q2 CL
          have s3 := AG.out.bx.get (i := 3) rfl
          have q1 := Cc.out.get (i := 1) rfl
          have co := AG.out.fo.get (bz AK)
          have zo := AG.out.fo.frz hm
          obtain ⟨v1, BL⟩ : ∃ v1, IntKind.i64.wrap (opK T kT k hm + 1) = v1 := ⟨_, rfl⟩
          have HV : Hid (aH (opK T kT k hm) = v1) := hide BL
          have Cy := hide (AG.out.setO AK v1)
          have Ci := hide (BK.out.setCell (p := ⟨op, hm, none⟩) AG.out.lo.2.2.2 (.int .i64 v1))
          generalize opK T kT k hm = xo at co BL
          clear AG Cc BK
          go_wp2_with fail
          go_roundw
          case rel => exact ⟨k + 1, _, _, by have := HL.out; omega, by go_num, Ba, hide (by rw [BC.out, Ao.out, HV.out]; exact Cy.out), Ci⟩
          case measure => have := HL.out; simp [intOf]; omega
    · have AL : k = T.rules.length := by omega
      have Ak : Hid (Nw W.heap.size q us ms rr op n T.rules.length (eA T kA T.rules.length) (dw T kT (opK T kT T.rules.length) 0) H vs wr) := hide (by have := HN.out; rw [AL] at this; exact this)
      have Cz : Hid (Gu T kA n T.rules.length 0 H) := hide (by have := HG.out; rw [AL] at this; exact this)
      have Aw := hide HBr.out
      clear HN HG HBr AL
      have c2 := (Au.out.keep (Aw.out.block _ Au.out.lt)).get (i := 2) rfl
      go_wp2_with fail
      clear c2
      go_loopw [83] (fun x wr => ∃ k : Nat, k ≤ T.rules.length ∧ x = .int .i64 k ∧ Hid (Nw W.heap.size q us ms rr op n T.rules.length (eA T kA T.rules.length) (dw T kT (opK T kT T.rules.length) k) H vs wr) ∧ Hid (Below W.heap.size W wr)) (fun x _ => T.rules.length - (intOf x).toNat)
      case atStart => exact ⟨0, by omega, rfl, Ak, Aw⟩
      case round =>
       clear Ak Aw
       rename World => wr5
       obtain ⟨k, hk, rfl, HN, HBr⟩ := hrel
       by_cases Ax : k < T.rules.length
       · obtain ⟨r, hr⟩ := ap Ax
         obtain ⟨h0, h1⟩ := HP.out.head r (List.mem_of_getElem? hr)
         obtain ⟨hm, Az⟩ := Int.eq_ofNat_of_zero_le h0
         have AK : hm < n := by omega
         have AU : aj T k = (hm : Int) := by unfold aj; rw [Int.toNat_natCast, hr]; exact Az
         have AR : aF T kT k = kT r := by unfold aF; rw [Int.toNat_natCast, hr]; rfl
         have AT : aA T k = r.body := by unfold aA; rw [Int.toNat_natCast, hr]; rfl
         have hR := TR.keep HBr.out.block Bg.out
         obtain ⟨gr, go, bd, bp, rfl, Bs, x0, x1, x2, -, BN, AJ⟩ := dG hR.rules hr
         rw [Az] at x1
         have As := ac wr5 (.cells #[.int .i64 r.kind, .int .i64 hm, .slice bd r.body.length bp] 114)
         have HQ : Hid (Fx wr5.heap.size 114 [.int .i64 r.kind, .int .i64 hm, .slice bd r.body.length bp] (wr5.alloc (.cells #[.int .i64 r.kind, .int .i64 hm, .slice bd r.body.length bp] 114))) := hide (heap_alloc_new wr5 _)
         have HNq := hide (HN.out.go As)
         have HBq := hide (HBr.out.trans (As.mono HBr.out.size))
         have Bz := hide AU
         have AF := hide AR
         have Be := hide AT
         have HL := hide Ax
         clear hr h0 h1 Az hR As AJ HN HBr Bs AU AR AT
         go_upto_region 18 with fail
         clear x0 x1 x2
         generalize wr5.alloc (.cells #[.int .i64 r.kind, .int .i64 hm, .slice bd r.body.length bp] 114) = wq at *
         obtain ⟨qr, AN⟩ : ∃ qr, wr5.heap.size = qr := ⟨_, rfl⟩
         rw [AN] at HQ ⊢
         clear AN
         have q0 := HQ.out.get (i := 0) rfl
         have q1 := HQ.out.get (i := 1) rfl
         have q2 := HQ.out.get (i := 2) rfl
         have CL := hide (eQ (w := wq) (k := r.kind) (h := (hm : Int)) (v := .slice bd r.body.length bp))
         cases htk : decide (r.kind = 3) with
         | true =>
          have Aq : Hid (kT r = false) := hide (by unfold kT; rw [htk]; rfl)
          have Ao : Hid (dw T kT (opK T kT T.rules.length) (k + 1) = dw T kT (opK T kT T.rules.length) k) := hide (by rw [gn, AF.out, Aq.out]; rfl)
          rw [htk] at CL
          clear htk
          go_wp2_with (go_at_call 176; refine CL.out.mono ?_; rintro _ w5 ⟨rfl, hb⟩; have Ag := hide hb; clear hb)
          go_roundw
          case rel => exact ⟨k + 1, by have := HL.out; omega, by go_num, hide (by rw [Ao.out]; exact HNq.out.go Ag.out), hide (HBq.out.trans (Ag.out.mono HBq.out.size))⟩
          case measure => have := HL.out; simp [intOf]; omega
         | false =>
          have Aq : Hid (kT r = true) := hide (by unfold kT; rw [htk]; rfl)
          rw [htk] at CL
          clear htk
          by_cases he : r.body.length = 0
          · have AQ : r.body.isEmpty = true := by rw [List.isEmpty_iff]; exact List.eq_nil_of_length_eq_zero he
            have Ao : Hid (dw T kT (opK T kT T.rules.length) (k + 1) = az (dw T kT (opK T kT T.rules.length) k) hm 0) := hide (by rw [gn, AF.out, Aq.out, Be.out, AQ, Bz.out]; rfl)
            have BZ : ((r.body.length : Int) == 0) = true := by simpa using he
            have AY : Hid (∀ X, Below wq.heap.size wq X → X.cell? ⟨qr, 1, none⟩ = some (.int .i64 hm) ∧ X.cell? ⟨qr, 2, none⟩ = some (.slice bd r.body.length bp) ∧ X.cell? ⟨q, 3, none⟩ = some (sl op n) ∧ X.cell? ⟨op, hm, none⟩ = some (.int .i64 (dw T kT (opK T kT T.rules.length) k hm)) ∧ X.frozen? ⟨op, hm, none⟩ = false) := hide fun X hX => by
             have a := HQ.out.keep (hX.block _ HQ.out.lt)
             have b := HNq.out.go hX
             exact ⟨a.get (i := 1) rfl, a.get (i := 2) rfl, b.bx.get (i := 3) rfl, b.fo.get (bz AK), b.fo.frz hm⟩
            clear AQ
            rw [he] at *
            go_wp2_with (go_at_call 176; refine CL.out.mono ?_; rintro _ w5 ⟨rfl, hb⟩; have Ag := hide hb; obtain ⟨k1, k2, k3, k4, k5⟩ := AY.out w5 hb; clear hb)
            go_roundw
            case rel => exact ⟨k + 1, by have := HL.out; omega, by go_num, hide (by rw [Ao.out]; exact (HNq.out.go Ag.out).setO AK 0), hide ((HBq.out.trans (Ag.out.mono HBq.out.size)).setCell (p := ⟨op, hm, none⟩) HNq.out.lo.2.2.2 (.int .i64 0))⟩
            case measure => have := HL.out; simp [intOf]; omega
          · have AQ : r.body.isEmpty = false := by cases hb : r.body with
             | nil => rw [hb] at he; simp at he
             | cons _ _ => rfl
            have Ao : Hid (dw T kT (opK T kT T.rules.length) (k + 1) = dw T kT (opK T kT T.rules.length) k) := hide (by rw [gn, AF.out, Aq.out, Be.out, AQ]; rfl)
            have BZ : ((r.body.length : Int) == 0) = false := by simpa using he
            have CD : (r.body.length == 0) = false := by simpa using he
            have AY : Hid (∀ X, Below wq.heap.size wq X → X.cell? ⟨qr, 2, none⟩ = some (.slice bd r.body.length bp)) := hide fun X hX => (HQ.out.keep (hX.block _ HQ.out.lt)).get (i := 2) rfl
            obtain ⟨bl, Ce⟩ : ∃ bl, r.body.length = bl := ⟨_, rfl⟩
            rw [Ce] at AY he BZ CD CL q2 BN
            clear AQ
            go_wp2_with (go_at_call 176; refine CL.out.mono ?_; rintro _ w5 ⟨rfl, hb⟩; have Ag := hide hb; have k2 := AY.out w5 hb; clear hb)
            go_roundw
            case rel => exact ⟨k + 1, by have := HL.out; omega, by go_num, hide (by rw [Ao.out]; exact HNq.out.go Ag.out), hide (HBq.out.trans (Ag.out.mono HBq.out.size))⟩
            case measure => have := HL.out; simp [intOf]; omega
       · have AL : k = T.rules.length := by omega
         have Ak : Hid (Nw W.heap.size q us ms rr op n T.rules.length (eA T kA T.rules.length) (dw T kT (opK T kT T.rules.length) T.rules.length) H vs wr5) := hide (by have := HN.out; rw [AL] at this; exact this)
         clear HN
         have c0 := Ak.out.bx.get (i := 0) rfl
         have c1 := Ak.out.bx.get (i := 1) rfl
         have c2 := Ak.out.bx.get (i := 2) rfl
         have c3 := Ak.out.bx.get (i := 3) rfl
         have HX2r := hide (AO.out.keep (HBr.out.block _ AO.out.lt))
         have CU : bq + 1 < W.heap.size := AO.out.lt
         go_upto_region 21 with fail
         refine wp_region_lit ?_
         refine wpList_plain rfl fun K hK => ?_
         go_simp
         refine hK _ _ ?_
         clear hK
         refine wpList_plain rfl fun K hK => ?_
         refine wp_store_row 178 _ _ rfl (bq + 1) _ rfl rfl _ _ HX2r.out (by kernel_rfl) rfl (by simp [sl, Value.oneCell']) ?_
         refine hK _ _ ?_
         clear hK
         have AH := hide (setRow_heap wr5 (bq + 1) _ #[sl us n, sl ms T.rules.length, sl rr T.rules.length, sl op n] _ _ HX2r.out)
         have Cp := hide (Ak.out.far (w' := wr5.setRow (bq + 1) #[sl us n, sl ms T.rules.length, sl rr T.rules.length, sl op n]) (fun g hg _ => setRow_other _ _ _ _ (by omega)) HB.out.size)
         have CH := hide (jI (b := bq + 1) (HB.out.trans (HBr.out.mono HB.out.size)) (by rw [Cm.out]; omega) #[sl us n, sl ms T.rules.length, sl rr T.rules.length, sl op n])
         generalize wr5.setRow (bq + 1) #[sl us n, sl ms T.rules.length, sl rr T.rules.length, sl op n] = Y at *
         clear Ak HBr c0 c1 c2 c3 HX2r AO
         go_wp2_with fail
         refine bodyPost_ret (v := .agg #[sl us n, sl ms T.rules.length, sl rr T.rules.length, sl op n]) (uY rfl AH.out) rfl ?_
         exact ⟨q, us, ms, rr, op, vs, H, rfl, Cp.out, fun z hz => by have := Cz.out.u z hz; simpa using this, CH.out⟩
end Go.Proofs.YtmlhcncagdfjfaaGreat.Fa
