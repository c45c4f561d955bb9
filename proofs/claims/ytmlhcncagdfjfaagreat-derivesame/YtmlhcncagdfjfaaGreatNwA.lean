import Derived.Test.YtmlhcncagdfjfaaGreatNob
set_option maxRecDepth 100000
set_option maxHeartbeats 12800000
namespace Go.Proofs.YtmlhcncagdfjfaaGreat.Fa
open Go.RowKit Rg
theorem qn {w : World} {T : Th} {F : List Int} {n : Nat} {fa ra ba : Option Addr} {fc rc bc : Nat} (h : TA w.heap.size w T fa fc ra rc ba bc) (hp : Pf T F n) :
    Calls Tryz.prog 173 #[tv T fa fc ra rc ba bc, .func (.func 175) #[] #[], .func (.func 176) #[] #[]] w fun o w' => ∃ q us ms rr op vs H, o = .returned (.agg (ub us ms rr op n T.rules.length).toArray) ∧ Nw w.heap.size q us ms rr op n T.rules.length (d8 T kA T.rules.length) (cX T kT (opK T kT T.rules.length) T.rules.length) H vs w' ∧ (∀ z : Nat, z < n → (H 0).getD z [] = dK T kA T.rules.length z) ∧ Below w.heap.size w w' := by
 obtain ⟨iL, Cs, Co, CD, CA⟩ := info_parts nG
 obtain ⟨iB, Cp, Ci, CH, Cq⟩ := info_parts jH
 obtain ⟨iI, Bs, Bj, BB, Bn⟩ := info_parts g7
 have CU := hp.n4
 have CT : T.rules.length ≤ 4096 := hp.ok.rl
 have BN : ∀ W, (Instr.makeSlice 22 (.int .i64 T.lits) (.int .i64 T.lits)).run Tryz.prog W = .ok (sl W.heap.size n) (W.alloc (.cells (Array.replicate n (.slice none 0 0)) 26)) := fun W => by rw [hp.ln]; exact aK (P := Tryz.prog) Tryz.underlying22 Cs Co CD rfl n (by rw [CA]; omega) (by unfold maxLen; omega) W
 have BV : ∀ W, (Instr.makeSlice 26 (.int .i64 T.lits) (.int .i64 T.lits)).run Tryz.prog W = .ok (sl W.heap.size n) (W.alloc (.cells (Array.replicate n (.int .i64 0)) 3)) := fun W => by rw [hp.ln]; exact aK (P := Tryz.prog) Tryz.underlying26 Bs Bj BB rfl n (by rw [Bn]; omega) (by unfold maxLen; omega) W
 have BK : ∀ W, (Instr.makeSlice 26 (.int .i64 T.rules.length) (.int .i64 T.rules.length)).run Tryz.prog W = .ok (sl W.heap.size T.rules.length) (W.alloc (.cells (Array.replicate T.rules.length (.int .i64 0)) 3)) := fun W => aK (P := Tryz.prog) Tryz.underlying26 Bs Bj BB rfl T.rules.length (by rw [Bn]; omega) (by unfold maxLen; omega) W
 have Cc : ∀ W, (Instr.makeSlice 106 (.int .i64 T.rules.length) (.int .i64 T.rules.length)).run Tryz.prog W = .ok (sl W.heap.size T.rules.length) (W.alloc (.cells (Array.replicate T.rules.length (.bool false)) 4)) := fun W => aK (P := Tryz.prog) Tryz.underlying106 Cp Ci CH rfl T.rules.length (by rw [Cq]; omega) (by unfold maxLen; omega) W
 have Bk := ac w (.cells #[.int .i64 T.lits, .slice fa T.foes.length fc, .slice ra T.rules.length rc, .slice ba T.beats.length bc] 25)
 have Br := ac (w.alloc (.cells #[.int .i64 T.lits, .slice fa T.foes.length fc, .slice ra T.rules.length rc, .slice ba T.beats.length bc] 25)) (.cells #[.slice none 0 0, .slice none 0 0, .slice none 0 0, .slice none 0 0] 178)
 have hB := Bk.trans (Br.mono Bk.size)
 have BP : Fx w.heap.size 25 [.int .i64 T.lits, .slice fa T.foes.length fc, .slice ra T.rules.length rc, .slice ba T.beats.length bc] ((w.alloc (.cells #[.int .i64 T.lits, .slice fa T.foes.length fc, .slice ra T.rules.length rc, .slice ba T.beats.length bc] 25)).alloc (.cells #[.slice none 0 0, .slice none 0 0, .slice none 0 0, .slice none 0 0] 178)) := (Br.block _ (by simp)).trans (heap_alloc_new w _)
 have BR : Fx (w.heap.size + 1) 178 [.slice none 0 0, .slice none 0 0, .slice none 0 0, .slice none 0 0] ((w.alloc (.cells #[.int .i64 T.lits, .slice fa T.foes.length fc, .slice ra T.rules.length rc, .slice ba T.beats.length bc] 25)).alloc (.cells #[.slice none 0 0, .slice none 0 0, .slice none 0 0, .slice none 0 0] 178)) := by
  have := heap_alloc_new (w.alloc (.cells #[.int .i64 T.lits, .slice fa T.foes.length fc, .slice ra T.rules.length rc, .slice ba T.beats.length bc] 25)) (.cells #[.slice none 0 0, .slice none 0 0, .slice none 0 0, .slice none 0 0] 178)
  simpa [Fx] using this
 have Bv := hide (TR.go hB h)
 have HP := hide hp
 have HB := hide hB
 have At := hide BP
 have AR := hide BR
 clear h hp hB Bk Br
 go_enter Tryz.func173, Tryz.ntmps173
 go_upto_region 1 with fail
 clear BP BR
 generalize (w.alloc (.cells #[.int .i64 T.lits, .slice fa T.foes.length fc, .slice ra T.rules.length rc, .slice ba T.beats.length bc] 25)).alloc (.cells #[.slice none 0 0, .slice none 0 0, .slice none 0 0, .slice none 0 0] 178) = W at *
 obtain ⟨bq, Bl⟩ : ∃ bq, w.heap.size = bq := ⟨_, rfl⟩
 have Cy := hide Bl
 rw [Bl] at At AR ⊢
 clear Bl
 have HDr := hide ((Below.refl W.heap.size W).drew)
 obtain ⟨W0, Bi⟩ : ∃ W0, W.drew = W0 := ⟨_, rfl⟩
 have HX1d := hide (At.out.keep (HDr.out.block _ At.out.lt))
 have Ae : Hid (fI [some 14, some 15, some 16, some 17, some 18, some 19, some 20, some 21, some 22, some 23, some 24, some 25, some 26, some 27, some 28, some 7, none] [(3, ab bq)] = true) := hide rfl
 rw [Bi] at HX1d HDr
 have Af : Hid (∀ X, Below W0.heap.size W0 X → X.cell? ⟨bq, 0, none⟩ = some (.int .i64 T.lits) ∧ X.cell? ⟨bq, 2, none⟩ = some (.slice ra T.rules.length rc)) := hide fun X hX => by
  have hf := HX1d.out.keep (hX.block _ HX1d.out.lt)
  exact ⟨hf.get (i := 0) rfl, hf.get (i := 2) rfl⟩
 refine bM fJ (Jl 16 [some 14, some 15, some 16, some 17, some 18, some 19, some 20, some 21, some 22, some 23, some 24, some 25, some 26, some 27, some 28, some 7, none] [(3, ab bq)] (tP T.rules.length ra rc T bq n W0.heap.size) (sH T.rules.length n W0) W0) (by kernel_rfl) (by kernel_rfl) ?_ (bV ⟨?_, ?_, ?_, ?_, ?_, ?_, ?_, ?_, ?_, ?_, ?_, ?_, ?_, ?_, ?_, ?_, ?_, trivial⟩) ?_ ?_
 · refine ⟨fun _ => ?_, fun e => by cases e⟩
   show Jg _ _ _ W0 _ _ W.drew
   rw [Bi]
   exact Jg.start.2 fun p hp => by simp at hp; subst hp; rfl
 · intro ρ X L hc hf hL hd Ab Ac
   have Aa : L 16 = false := ah (by kernel_rfl) Ab (k := 0) (by simp) hL
   have hJ := Ac.1 Aa
   obtain ⟨c0, c2⟩ := Af.out X hJ.low
   have k3 : ρ (.tmp 3) = ab bq := hJ.base (3, ab bq) (by simp)
   refine aa (v := ab bq) (w' := X) ?_ ⟨fun _ => hJ.put Ae.out aV (i := 0) (d := 14) rfl (Below.refl _ _) (rfl), fun e => by rw [aj (by decide), Aa] at e; cases e⟩
   clear hd Ab hJ Ac hL Aa
   go_simp
 · intro ρ X L hc hf hL hd Ab Ac
   have Aa : L 16 = false := ah (by kernel_rfl) Ab (k := 1) (by simp) hL
   have hJ := Ac.1 Aa
   obtain ⟨c0, c2⟩ := Af.out X hJ.low
   obtain ⟨_, _, _, e1⟩ := hJ.get (i := 0) (d := 14) rfl (hd ⟨0, .data⟩ (by simp) rfl)
   have De : ρ (.tmp 14) = ab bq := e1
   clear e1
   refine aa (v := .int .i64 T.lits) (w' := X) ?_ ⟨fun _ => hJ.put Ae.out aV (i := 1) (d := 15) rfl (Below.refl _ _) (rfl), fun e => by rw [aj (by decide), Aa] at e; cases e⟩
   clear hd Ab hJ Ac hL Aa
   go_simp
 · intro ρ X L hc hf hL hd Ab Ac
   have Aa : L 16 = false := ah (by kernel_rfl) Ab (k := 2) (by simp) hL
   have hJ := Ac.1 Aa
   obtain ⟨c0, c2⟩ := Af.out X hJ.low
   obtain ⟨_, _, _, e1⟩ := hJ.get (i := 1) (d := 15) rfl (hd ⟨1, .data⟩ (by simp) rfl)
   have CP : ρ (.tmp 15) = .int .i64 T.lits := e1
   have BA := BN X
   clear e1
   refine aa (v := sl X.heap.size n) (w' := X.alloc (.cells (Array.replicate n (.slice none 0 0)) 26)) ?_ ⟨fun _ => hJ.put Ae.out aV (i := 2) (d := 16) rfl (ac X _) (⟨X.heap.size, rfl, by unfold Fx; rw [heap_alloc_new]; simp, Nat.le_refl _, by simp, hJ.low.size⟩), fun e => by rw [aj (by decide), Aa] at e; cases e⟩
   clear hd Ab hJ Ac hL Aa
   go_simp
 · intro ρ X L hc hf hL hd Ab Ac
   have Aa : L 16 = false := ah (by kernel_rfl) Ab (k := 3) (by simp) hL
   have hJ := Ac.1 Aa
   obtain ⟨c0, c2⟩ := Af.out X hJ.low
   have k3 : ρ (.tmp 3) = ab bq := hJ.base (3, ab bq) (by simp)
   refine aa (v := .pointer (some ⟨bq, 2, none⟩)) (w' := X) ?_ ⟨fun _ => hJ.put Ae.out aV (i := 3) (d := 17) rfl (Below.refl _ _) (rfl), fun e => by rw [aj (by decide), Aa] at e; cases e⟩
   clear hd Ab hJ Ac hL Aa
   go_simp
 · intro ρ X L hc hf hL hd Ab Ac
   have Aa : L 16 = false := ah (by kernel_rfl) Ab (k := 4) (by simp) hL
   have hJ := Ac.1 Aa
   obtain ⟨c0, c2⟩ := Af.out X hJ.low
   obtain ⟨_, _, _, e1⟩ := hJ.get (i := 3) (d := 17) rfl (hd ⟨3, .data⟩ (by simp) rfl)
   have Dq : ρ (.tmp 17) = .pointer (some ⟨bq, 2, none⟩) := e1
   clear e1
   refine aa (v := .slice ra T.rules.length rc) (w' := X) ?_ ⟨fun _ => hJ.put Ae.out aV (i := 4) (d := 18) rfl (Below.refl _ _) (rfl), fun e => by rw [aj (by decide), Aa] at e; cases e⟩
   clear hd Ab hJ Ac hL Aa
   go_simp
 · intro ρ X L hc hf hL hd Ab Ac
   have Aa : L 16 = false := ah (by kernel_rfl) Ab (k := 5) (by simp) hL
   have hJ := Ac.1 Aa
   obtain ⟨c0, c2⟩ := Af.out X hJ.low
   obtain ⟨_, _, _, e1⟩ := hJ.get (i := 4) (d := 18) rfl (hd ⟨4, .data⟩ (by simp) rfl)
   have Dg : ρ (.tmp 18) = .slice ra T.rules.length rc := e1
   clear e1
   refine aa (v := .int .i64 T.rules.length) (w' := X) ?_ ⟨fun _ => hJ.put Ae.out aV (i := 5) (d := 19) rfl (Below.refl _ _) (rfl), fun e => by rw [aj (by decide), Aa] at e; cases e⟩
   clear hd Ab hJ Ac hL Aa
   go_simp
 · intro ρ X L hc hf hL hd Ab Ac
   have Aa : L 16 = false := ah (by kernel_rfl) Ab (k := 6) (by simp) hL
   have hJ := Ac.1 Aa
   obtain ⟨c0, c2⟩ := Af.out X hJ.low
   obtain ⟨_, _, _, e1⟩ := hJ.get (i := 5) (d := 19) rfl (hd ⟨5, .data⟩ (by simp) rfl)
   have Df : ρ (.tmp 19) = .int .i64 T.rules.length := e1
   have BA := BK X
   clear e1
   refine aa (v := sl X.heap.size T.rules.length) (w' := X.alloc (.cells (Array.replicate T.rules.length (.int .i64 0)) 3)) ?_ ⟨fun _ => hJ.put Ae.out aV (i := 6) (d := 20) rfl (ac X _) (⟨X.heap.size, rfl, by unfold Fx; rw [heap_alloc_new, iQ], Nat.le_refl _, by simp, hJ.low.size⟩), fun e => by rw [aj (by decide), Aa] at e; cases e⟩
   clear hd Ab hJ Ac hL Aa
   go_simp
 · intro ρ X L hc hf hL hd Ab Ac
   have Aa : L 16 = false := ah (by kernel_rfl) Ab (k := 7) (by simp) hL
   have hJ := Ac.1 Aa
   obtain ⟨c0, c2⟩ := Af.out X hJ.low
   have k3 : ρ (.tmp 3) = ab bq := hJ.base (3, ab bq) (by simp)
   refine aa (v := .pointer (some ⟨bq, 2, none⟩)) (w' := X) ?_ ⟨fun _ => hJ.put Ae.out aV (i := 7) (d := 21) rfl (Below.refl _ _) (rfl), fun e => by rw [aj (by decide), Aa] at e; cases e⟩
   clear hd Ab hJ Ac hL Aa
   go_simp
 · intro ρ X L hc hf hL hd Ab Ac
   have Aa : L 16 = false := ah (by kernel_rfl) Ab (k := 8) (by simp) hL
   have hJ := Ac.1 Aa
   obtain ⟨c0, c2⟩ := Af.out X hJ.low
   obtain ⟨_, _, _, e1⟩ := hJ.get (i := 7) (d := 21) rfl (hd ⟨7, .data⟩ (by simp) rfl)
   have CM : ρ (.tmp 21) = .pointer (some ⟨bq, 2, none⟩) := e1
   clear e1
   refine aa (v := .slice ra T.rules.length rc) (w' := X) ?_ ⟨fun _ => hJ.put Ae.out aV (i := 8) (d := 22) rfl (Below.refl _ _) (rfl), fun e => by rw [aj (by decide), Aa] at e; cases e⟩
   clear hd Ab hJ Ac hL Aa
   go_simp
 · intro ρ X L hc hf hL hd Ab Ac
   have Aa : L 16 = false := ah (by kernel_rfl) Ab (k := 9) (by simp) hL
   have hJ := Ac.1 Aa
   obtain ⟨c0, c2⟩ := Af.out X hJ.low
   obtain ⟨_, _, _, e1⟩ := hJ.get (i := 8) (d := 22) rfl (hd ⟨8, .data⟩ (by simp) rfl)
   have Dd : ρ (.tmp 22) = .slice ra T.rules.length rc := e1
   clear e1
   refine aa (v := .int .i64 T.rules.length) (w' := X) ?_ ⟨fun _ => hJ.put Ae.out aV (i := 9) (d := 23) rfl (Below.refl _ _) (rfl), fun e => by rw [aj (by decide), Aa] at e; cases e⟩
   clear hd Ab hJ Ac hL Aa
   go_simp
 · intro ρ X L hc hf hL hd Ab Ac
   have Aa : L 16 = false := ah (by kernel_rfl) Ab (k := 10) (by simp) hL
   have hJ := Ac.1 Aa
   obtain ⟨c0, c2⟩ := Af.out X hJ.low
   obtain ⟨_, _, _, e1⟩ := hJ.get (i := 9) (d := 23) rfl (hd ⟨9, .data⟩ (by simp) rfl)
   have Dk : ρ (.tmp 23) = .int .i64 T.rules.length := e1
   have BA := Cc X
   clear e1
   refine aa (v := sl X.heap.size T.rules.length) (w' := X.alloc (.cells (Array.replicate T.rules.length (.bool false)) 4)) ?_ ⟨fun _ => hJ.put Ae.out aV (i := 10) (d := 24) rfl (ac X _) (⟨X.heap.size, rfl, by unfold Fx cj; rw [heap_alloc_new]; simp [List.map_const'], Nat.le_refl _, by simp, hJ.low.size⟩), fun e => by rw [aj (by decide), Aa] at e; cases e⟩
   clear hd Ab hJ Ac hL Aa
   go_simp
 · intro ρ X L hc hf hL hd Ab Ac
   have Aa : L 16 = false := ah (by kernel_rfl) Ab (k := 11) (by simp) hL
   have hJ := Ac.1 Aa
   obtain ⟨c0, c2⟩ := Af.out X hJ.low
   have k3 : ρ (.tmp 3) = ab bq := hJ.base (3, ab bq) (by simp)
   refine aa (v := ab bq) (w' := X) ?_ ⟨fun _ => hJ.put Ae.out aV (i := 11) (d := 25) rfl (Below.refl _ _) (rfl), fun e => by rw [aj (by decide), Aa] at e; cases e⟩
   clear hd Ab hJ Ac hL Aa
   go_simp
 · intro ρ X L hc hf hL hd Ab Ac
   have Aa : L 16 = false := ah (by kernel_rfl) Ab (k := 12) (by simp) hL
   have hJ := Ac.1 Aa
   obtain ⟨c0, c2⟩ := Af.out X hJ.low
   obtain ⟨_, _, _, e1⟩ := hJ.get (i := 11) (d := 25) rfl (hd ⟨11, .data⟩ (by simp) rfl)
   have CZ : ρ (.tmp 25) = ab bq := e1
   clear e1
   refine aa (v := .int .i64 T.lits) (w' := X) ?_ ⟨fun _ => hJ.put Ae.out aV (i := 12) (d := 26) rfl (Below.refl _ _) (rfl), fun e => by rw [aj (by decide), Aa] at e; cases e⟩
   clear hd Ab hJ Ac hL Aa
   go_simp
 · intro ρ X L hc hf hL hd Ab Ac
   have Aa : L 16 = false := ah (by kernel_rfl) Ab (k := 13) (by simp) hL
   have hJ := Ac.1 Aa
   obtain ⟨c0, c2⟩ := Af.out X hJ.low
   obtain ⟨_, _, _, e1⟩ := hJ.get (i := 12) (d := 26) rfl (hd ⟨12, .data⟩ (by simp) rfl)
   have Dm : ρ (.tmp 26) = .int .i64 T.lits := e1
   have BA := BV X
   clear e1
   refine aa (v := sl X.heap.size n) (w' := X.alloc (.cells (Array.replicate n (.int .i64 0)) 3)) ?_ ⟨fun _ => hJ.put Ae.out aV (i := 13) (d := 27) rfl (ac X _) (⟨X.heap.size, rfl, by unfold Fx; rw [heap_alloc_new, iQ], Nat.le_refl _, by simp, hJ.low.size⟩), fun e => by rw [aj (by decide), Aa] at e; cases e⟩
   clear hd Ab hJ Ac hL Aa
   go_simp
 · intro ρ X L hc hf hL hd Ab Ac
   have Aa : L 16 = false := ah (by kernel_rfl) Ab (k := 14) (by simp) hL
   have hJ := Ac.1 Aa
   obtain ⟨c0, c2⟩ := Af.out X hJ.low
   obtain ⟨lo, hi, AO, Bw⟩ := hJ.at_
   have l2 : L 2 = true := hd ⟨2, .data⟩ (by simp) rfl
   have l6 : L 6 = true := hd ⟨6, .data⟩ (by simp) rfl
   have Cz : L 10 = true := hd ⟨10, .data⟩ (by simp) rfl
   have BX : L 13 = true := hd ⟨13, .data⟩ (by simp) rfl
   obtain ⟨-, -, -, g0, e3, f3, a3, b3, n3⟩ := AO 2 16 rfl l2
   obtain ⟨-, -, -, g1, e6, f6, a6, b6, n6⟩ := AO 6 20 rfl l6
   obtain ⟨-, -, -, g2, e9, f9, a9, b9, n9⟩ := AO 10 24 rfl Cz
   obtain ⟨-, -, -, g3, BW, BQ, CY, CQ, Cv⟩ := AO 13 27 rfl BX
   have d1 := Bw 6 13 20 27 rfl rfl (by decide) l6 BX
   have CN : ρ (.tmp 16) = sl g0 n := e3
   have Db : ρ (.tmp 20) = sl g1 T.rules.length := e6
   have CV : ρ (.tmp 24) = sl g2 T.rules.length := e9
   have CO : ρ (.tmp 27) = sl g3 n := BW
   refine aa (v := .agg #[sl g0 n, sl g1 T.rules.length, sl g2 T.rules.length, sl g3 n]) (w' := X) ?_ ⟨fun _ => hJ.put Ae.out aV (i := 14) (d := 28) rfl (Below.refl _ _) (⟨g0, g1, g2, g3, rfl, f3, f6, f9, BQ, ⟨n3, n6, n9, Cv⟩, by omega⟩), fun e => by rw [aj (by decide), Aa] at e; cases e⟩
   clear hd Ab hJ Ac hL Aa AO Bw d1 e3 e6 e9 BW f3 f6 f9 BQ
   go_simp
 · intro ρ X L hc hf hL hd Ab Ac
   have Aa : L 16 = false := ah (by kernel_rfl) Ab (k := 15) (by simp) hL
   have hJ := Ac.1 Aa
   obtain ⟨c0, c2⟩ := Af.out X hJ.low
   refine aa (v := ab X.heap.size) (w' := X.alloc (.cells #[.slice none 0 0, .slice none 0 0, .slice none 0 0, .slice none 0 0] 178)) ?_ ⟨fun _ => hJ.put Ae.out aV (i := 15) (d := 7) rfl (ac X _) (⟨X.heap.size, [.slice none 0 0, .slice none 0 0, .slice none 0 0, .slice none 0 0], rfl, heap_alloc_new X _, rfl, hJ.low.size⟩), fun e => by rw [aj (by decide), Aa] at e; cases e⟩
   clear hd Ab hJ Ac hL Aa
   go_simp
 · intro ρ X L hc hf hL hd Ab Ac
   have hJ := Ac.1 hL
   obtain ⟨_, _, _, g0, g1, g2, g3, BS, f0, f1, f2, f3, ⟨m0, m1, m2, m3⟩, d1⟩ := hJ.get (i := 14) (d := 28) rfl (hd ⟨14, .data⟩ (by simp) rfl)
   obtain ⟨_, _, _, q, xs, e7, h0, Ck, hq⟩ := hJ.get (i := 15) (d := 7) rfl (hd ⟨15, .data⟩ (by simp) rfl)
   obtain ⟨t0, t1, t2, t3, rfl⟩ : ∃ t0 t1 t2 t3, xs = [t0, t1, t2, t3] := by
    match xs, Ck with
    | [t0, t1, t2, t3], _ => exact ⟨t0, t1, t2, t3, rfl⟩
   have Dn : ρ (.tmp 28) = .agg #[sl g0 n, sl g1 T.rules.length, sl g2 T.rules.length, sl g3 n] := BS
   have k7 : ρ (.tmp 7) = ab q := e7
   have y0 := h0.get (i := 0) (v := t0) rfl
   have z0 := h0.frz 0
   have h1 := h0.set 0 (sl g0 n)
   have y1 := h1.get (i := 1) (v := t1) rfl
   have z1 := h1.frz 1
   have h2 := h1.set 1 (sl g1 T.rules.length)
   have y2 := h2.get (i := 2) (v := t2) rfl
   have z2 := h2.frz 2
   have h3 := h2.set 2 (sl g2 T.rules.length)
   have y3 := h3.get (i := 3) (v := t3) rfl
   have z3 := h3.frz 3
   have h4 := h3.set 3 (sl g3 n)
   have kp : ∀ {g t : Nat} {xs : List Value}, Fx g t xs X → t ≠ 178 → Fx g t xs ((((X.setCell ⟨q, 0, none⟩ (sl g0 n)).setCell ⟨q, 1, none⟩ (sl g1 T.rules.length)).setCell ⟨q, 2, none⟩ (sl g2 T.rules.length)).setCell ⟨q, 3, none⟩ (sl g3 n)) := fun hx ht => by
    have Cm := ao hx h0 ht
    exact hx.keep (by simp only [other_set Cm])
   have AJ : Hid (sH T.rules.length n W0 (fF (fun s => ρ (.tmp s)) none undef) ((((X.setCell ⟨q, 0, none⟩ (sl g0 n)).setCell ⟨q, 1, none⟩ (sl g1 T.rules.length)).setCell ⟨q, 2, none⟩ (sl g2 T.rules.length)).setCell ⟨q, 3, none⟩ (sl g3 n))) := hide ⟨q, g0, g1, g2, g3, by rw [eQ (by simp)]; exact k7, ⟨h4, kp f1 (by decide), kp f2 (by decide), kp f3 (by decide), qH (kp f0 (by decide)) m0, ⟨hq, m1, m2, m3⟩, d1, fun i v hv => by rw [List.getElem?_replicate] at hv; split at hv <;> cases hv; exact ⟨fun e => (by cases e), fun e => (by cases e)⟩⟩, ((((hJ.low.setCell (p := ⟨q, 0, none⟩) hq _).setCell (p := ⟨q, 1, none⟩) hq _).setCell (p := ⟨q, 2, none⟩) hq _).setCell (p := ⟨q, 3, none⟩) hq _)⟩
   refine bN (w' := ((((X.setCell ⟨q, 0, none⟩ (sl g0 n)).setCell ⟨q, 1, none⟩ (sl g1 T.rules.length)).setCell ⟨q, 2, none⟩ (sl g2 T.rules.length)).setCell ⟨q, 3, none⟩ (sl g3 n))) ?_ ⟨fun e => (by rw [aG] at e; cases e), fun _ => AJ.out⟩
   clear hd Ab hJ Ac hL kp AJ f0 f1 f2 f3 h1 h2 h3 h4 h0 BS e7
   go_simp
 · intro c a' w' _ hE
   exact hE.elim
 · rintro ⟨Ad, df⟩ w' Av AK ⟨L, hL, hJ⟩ Aw
   simp only at AK Av
   subst AK
   obtain ⟨q, us, ms, rr, op, e7, Ca, BM⟩ := hJ.2 (hL 16 (by decide))
   have e7 : Ad.getD 7 undef = ab q := e7
   have Ay := dX 14 28 7 (by kernel_rfl) Av Aw
   simp only [zs, Nat.reduceLT, Nat.reduceAdd, true_or, or_true, or_self, false_and, ne_eq, Nat.reduceEqDiff, not_false_eq_true, not_true_eq_false, and_self, and_false, if_true, if_false, e7] at Ay
   rw [Ay]
   clear Ay hJ hL Aw Av e7 BN Cc BV BK Af Ae
   generalize Ad.getD 14 undef = x14
   generalize Ad.getD 15 undef = x15
   generalize Ad.getD 16 undef = x16
   generalize Ad.getD 17 undef = x17
   generalize Ad.getD 18 undef = x18
   generalize Ad.getD 19 undef = x19
   generalize Ad.getD 20 undef = x20
   generalize Ad.getD 21 undef = x21
   generalize Ad.getD 22 undef = x22
   generalize Ad.getD 23 undef = x23
   generalize Ad.getD 24 undef = x24
   generalize Ad.getD 25 undef = x25
   generalize Ad.getD 26 undef = x26
   generalize Ad.getD 27 undef = x27
   generalize Ad.getD 28 undef = x28
   have Aj := hide Ca
   have Ax : Hid (Below W.heap.size W w') := hide (HDr.out.trans (BM.mono HDr.out.size))
   have Bf : W0.heap.size = W.heap.size := by rw [← Bi]; rfl
   rw [Bf] at Aj
   clear Ca BM Bf HDr HX1d
   have c2 := (At.out.keep (Ax.out.block _ At.out.lt)).get (i := 2) rfl
   go_wp2_with fail
   clear c2
   go_loopw [32] (fun x wr => ∃ (k : Nat) (H : Nat → List (List Int)) (vs : Nat → List Value), k ≤ T.rules.length ∧ x = .int .i64 k ∧ Hid (Gu T kA n k 0 H) ∧ Hid (Nw W.heap.size q us ms rr op n T.rules.length (d8 T kA k) (opK T kT k) H vs wr) ∧ Hid (Below W.heap.size W wr)) (fun x _ => T.rules.length - (intOf x).toNat)
   case atStart => exact ⟨0, _, _, by omega, rfl, hide Gu.start, Aj, Ax⟩
   case round =>
    clear Aj Ax
    obtain ⟨k, H, vs, hk, rfl, HG, HN, HBr⟩ := hrel
    by_cases Au : k < T.rules.length
    · obtain ⟨r, hr⟩ := am Au
      obtain ⟨h0, h1⟩ := HP.out.head r (List.mem_of_getElem? hr)
      obtain ⟨hm, Az⟩ := Int.eq_ofNat_of_zero_le h0
      have AV : hm < n := by omega
      have AL : ag T k = (hm : Int) := by unfold ag; rw [Int.toNat_natCast, hr]; exact Az
      have BG : aA T kA k = kA r := by unfold aA; rw [Int.toNat_natCast, hr]; rfl
      have AS : aA T kT k = kT r := by unfold aA; rw [Int.toNat_natCast, hr]; rfl
      have AP : aq T k = r.body := by unfold aq; rw [Int.toNat_natCast, hr]; rfl
      have hR := TR.keep HBr.out.block Bv.out
      obtain ⟨gr, go, bd, bp, rfl, Bm, x0, x1, x2, -, BO, AH⟩ := dZ hR.rules hr
      have CK : r.body.length ≤ 16 := (HP.out.ok.rule r (List.mem_of_getElem? hr)).2.2.2.2.1
      have Cl : Hid r.body.Nodup := hide (cN (bH (by omega) (HP.out.ok.rule r (List.mem_of_getElem? hr)).2.2.2.2.2).2)
      have CC : Hid (∀ x ∈ r.body, 0 ≤ x ∧ x < (n : Int)) := hide (HP.out.body r (List.mem_of_getElem? hr))
      have CE : Hid (∀ X, Below W.heap.size W X → At1 X bd (aw r.body)) := hide fun X hX => by
       have h2 := TR.keep hX.block Bv.out
       obtain ⟨g3, o3, b3, p3, e3, BD, -, -, x3, -, -, Cj⟩ := dZ h2.rules hr
       cases e3
       have e4 : wr.cell? ⟨gr, go + k * 3 + 2, none⟩ = X.cell? ⟨gr, go + k * 3 + 2, none⟩ := (World.cell?_of_block (HBr.out.block gr BD)).trans (World.cell?_of_block (hX.block gr BD)).symm
       rw [x2, x3] at e4
       cases e4
       exact Cj.at1
      rw [Az] at x1
      have AB := ac wr (.cells #[.int .i64 r.kind, .int .i64 hm, .slice bd r.body.length bp] 114)
      have HQ : Hid (Fx wr.heap.size 114 [.int .i64 r.kind, .int .i64 hm, .slice bd r.body.length bp] (wr.alloc (.cells #[.int .i64 r.kind, .int .i64 hm, .slice bd r.body.length bp] 114))) := hide (heap_alloc_new wr _)
      have HNq := hide (HN.out.go AB)
      have HBq := hide (HBr.out.trans (AB.mono HBr.out.size))
      have HRr := hide hr
      have BC := hide AL
      have CF := hide BG
      have AD := hide AS
      have AZ := hide AP
      have HL := hide Au
      clear hr h0 h1 Az hR AB AH HN HBr Bm AL BG AS AP
      go_upto_region 5 with fail
      clear x0 x1 x2
      generalize wr.alloc (.cells #[.int .i64 r.kind, .int .i64 hm, .slice bd r.body.length bp] 114) = wq at *
      obtain ⟨qr, AN⟩ : ∃ qr, wr.heap.size = qr := ⟨_, rfl⟩
      rw [AN] at HQ ⊢
      clear AN
      have q0 := HQ.out.get (i := 0) rfl
      have q1 := HQ.out.get (i := 1) rfl
      have q2 := HQ.out.get (i := 2) rfl
      have CW := hide (uE (w := wq) (k := r.kind) (h := (hm : Int)) (v := .slice bd r.body.length bp))
      have BT : Hid (kA r = true) := hide rfl
      have Bg : Hid (d8 T kA (k + 1) = ap (d8 T kA k) k (r.body.length : Nat)) := hide (by rw [ko, CF.out, AZ.out, if_pos BT.out])
      go_upto_region 6 with (go_at_call 175; refine CW.out.mono ?_; rintro _ w3 ⟨rfl, hb⟩; have AE := hide hb; clear hb)
      have AA := hide (HNq.out.go AE.out)
      have AC := hide (HQ.out.keep (AE.out.block _ HQ.out.lt))
      have Cb := hide (HBq.out.trans (AE.out.mono HBq.out.size))
      clear HNq HQ HBq AE q0 q1 q2 CW
      have s1 := AA.out.bx.get (i := 1) rfl
      have q2 := AC.out.get (i := 2) rfl
      have cm := AA.out.fm.get (aY HL.out)
      have zm := AA.out.fm.frz k
      have Bx := hide (AA.out.setM HL.out (r.body.length : Nat))
      have Bo := hide (AC.out.keep (w' := w3.setCell ⟨ms, k, none⟩ (.int .i64 (r.body.length : Nat))) (other_set (ao AC.out AA.out.fm (by decide))))
      have BH := hide (Cb.out.setCell (p := ⟨ms, k, none⟩) AA.out.lo.2.1 (.int .i64 (r.body.length : Nat)))
      have q2' := Bo.out.get (i := 2) rfl
      obtain ⟨AY, Bu⟩ : ∃ AY, ap (d8 T kA k) k (r.body.length : Nat) = AY := ⟨_, rfl⟩
      rw [Bu] at Bx Bg
      clear AA AC Cb Bu
      go_wp2_with fail
      clear s1 q2 cm zm q2'
      go_loopw [51] (fun x wr => ∃ (j : Nat) (H : Nat → List (List Int)) (vs : Nat → List Value), j ≤ r.body.length ∧ x = .int .i64 j ∧ Hid (Gu T kA n k j H) ∧ Hid (Nw W.heap.size q us ms rr op n T.rules.length AY (opK T kT k) H vs wr) ∧ Hid (Below W.heap.size W wr) ∧ Hid (Fx qr 114 [.int .i64 r.kind, .int .i64 hm, .slice bd r.body.length bp] wr)) (fun x _ => r.body.length - (intOf x).toNat)
      case atStart => exact ⟨0, _, _, by omega, rfl, HG, Bx, BH, Bo⟩
      case round =>
       clear HG Bx BH Bo
       rename World => wr3
       obtain ⟨j, H, vs, hj, rfl, HG, HN, HBq, HQ⟩ := hrel
       by_cases hjl : j < r.body.length
       · obtain ⟨x0, hx⟩ := am hjl
         obtain ⟨y0, y1⟩ := CC.out x0 (List.mem_of_getElem? hx)
         obtain ⟨x, rfl⟩ := Int.eq_ofNat_of_zero_le y0
         have Bz : x < n := by omega
         obtain ⟨gx, ox, rfl, cx⟩ := (CE.out wr3 HBq.out).get hx
         have HXx := hide hx
         have Cd : Hid (∀ (c i : Nat) (l : List Int), c < 1 → (H c)[i]? = some l → l.length ≤ 4096) := hide fun c i l hc hl => HG.out.len (by have := HL.out; omega) (z := i) (by rw [← (show c = 0 by omega)]; exact hl)
         clear hx y0 y1
         go_upto_region 10 with fail
         have AI := (Below.refl wr3.heap.size wr3).drew
         have HNd0 := hide (HN.out.go AI)
         have HQd0 := hide (HQ.out.keep (AI.block _ HQ.out.lt))
         have HBd0 := hide (HBq.out.trans (AI.mono HBq.out.size))
         obtain ⟨wd, Bq⟩ : ∃ wd, wr3.drew = wd := ⟨_, rfl⟩
         rw [Bq] at HNd0 HQd0 HBd0
         obtain ⟨l0, An, Am, Bp, BI, Bc, As⟩ := HNd0.out.h3.at (c := 0) (by omega) (show x < n from Bz)
         have Bc : wd.cell? ⟨us, x, none⟩ = some (.slice An l0.length Am) := Bc
         have CJ : l0.length ≤ 4096 := Cd.out 0 _ _ (by omega) Bp
         have AM := ac wd (.cells #[.int .i64 k] 3)
         have Bh : W.heap.size ≤ wd.heap.size := HBd0.out.size
         obtain ⟨Aq, Al, w2, BZ, Bd, Ah, By, Ce⟩ := run_append_lies (P := Tryz.prog) (wd.alloc (.cells #[.int .i64 k] 3)) 26 26 W.heap.size 3 iI _ 1 8 Tryz.underlying26 Bs Bj BB Bn rfl (by decide) (.slice An l0.length Am) l0.length (aw l0) (owns_keep As fun g hg => AM.block g (aD As hg)) ⟨wd.heap.size, 0, none⟩ 1 1 [.int .i64 k] rfl (World.news_of_block (cs := [.int .i64 k].toArray) (t := 3) (fr := (0, 0)) (heap_alloc_new wd (.cells #[.int .i64 k] 3))) (by simp [Value.oneCell']) (by decide) (by unfold maxLen; omega) (by omega) (by simp; omega) (wd.heap.size + 1) (by simp)
         have BF := hide BZ
         have Ao : ∀ k, k < wd.heap.size → Value.ownBlock (.slice An l0.length Am) ≠ some k → w2.heap[k]? = wd.heap[k]? := fun k hk hn => (Ah.block k (by simp; omega) fun e => hn e.symm).trans (AM.block k hk)
         have AX := ay As (HNd0.out.h3.fx 0 (by omega)) (by decide)
         have AW := ay As HQd0.out (by decide)
         have Bt := ay As HNd0.out.bx (by decide)
         obtain ⟨w3, AT⟩ : ∃ w3, w2.setCell ⟨us, x, none⟩ (.slice (some ⟨Aq, 0, none⟩) (l0.length + 1) Al) = w3 := ⟨_, rfl⟩
         have BY := hide AT
         have HN0a : Hid (Nw W.heap.size q us ms rr op n T.rules.length AY (opK T kT k) (up H 0 ((H 0).set x (l0 ++ [(k : Int)]))) (up vs 0 ((vs 0).set x (.slice (some ⟨Aq, 0, none⟩) (l0.length + 1) Al))) w3) := hide (by rw [← AT]; exact HNd0.out.add (c := 0) (by omega) Bp BI Bd Ao (by rcases By with h | h; exact .inl h; exact .inr (by omega)))
         have AC : Hid (Fx qr 114 [.int .i64 r.kind, .int .i64 hm, .slice (some ⟨gx, ox, none⟩) r.body.length bp] w3) := hide (by rw [← AT]; exact (HQd0.out.keep (Ao _ HQd0.out.lt AW)).keep (other_set (ao HQd0.out (HNd0.out.h3.fx 0 (by omega)) (by decide))))
         have AE : Hid (Below W.heap.size W w3) := hide (by rw [← AT]; exact (HBd0.out.trans (show Below W.heap.size wd w2 from (AM.mono Bh).trans ⟨Ah.os, Ah.tape, Ah.output, Ah.size, fun k hk => Ah.block k (by simp; omega) fun e => by have := (As.lt k e.symm).1; omega⟩)).setCell (p := ⟨us, x, none⟩) (HNd0.out.h3.lo 0 (by omega)) (.slice (some ⟨Aq, 0, none⟩) (l0.length + 1) Al))
         have Ba : ∀ {a : Addr} {v : Value}, wd.cell? a = some v → Value.ownBlock (.slice An l0.length Am) ≠ some a.block → ∀ X, X = wd ∨ X = wd.alloc (.cells #[.int .i64 k] 3) ∨ X = w2 → X.cell? a = some v := fun ha hn X hX => by
          have Au := World.block_lt_of_cell? wd _ ha
          rcases hX with rfl | rfl | rfl
          · exact ha
          · exact eA ha AM
          · exact (World.cell?_of_block (Ao _ Au hn)).trans ha
         have LH := hide (Ba (HNd0.out.bx.get (i := 0) (v := sl us n) rfl) Bt)
         have LQ := hide (Ba (HQd0.out.get (i := 1) rfl) AW)
         have LR := hide (Ba Bc AX)
         have q1 : w2.cell? ⟨us, x, none⟩ = some (.slice An l0.length Am) := LR.out w2 (.inr (.inr rfl))
         have q2 : w2.frozen? ⟨us, x, none⟩ = false := ((HNd0.out.h3.fx 0 (by omega)).keep (Ao _ (HNd0.out.h3.fx 0 (by omega)).lt AX)).frz x
         have Ak : Hid (fI ([some (55, .pointer (some ⟨q, 0, none⟩)), some (56, sl us n), some (57, .int .i64 x), some (58, .pointer (some ⟨q, 0, none⟩)), some (59, sl us n), some (60, .int .i64 x), some (61, .pointer (some ⟨us, x, none⟩)), some (62, .slice An l0.length Am), some (63, .int .i64 k), some (64, .slice (some ⟨wd.heap.size, 0, none⟩) 1 1), some (65, .slice (some ⟨Aq, 0, none⟩) (l0.length + 1) Al), some (66, .pointer (some ⟨us, x, none⟩)), none].map fun p : Option (Nat × Value) => p.map Prod.fst) [(7, ab q), (11, .int .i64 x), (8, .int .i64 k)] = true) := hide rfl
         clear HN HQ HBq Bc Ah Bd BZ AW Bt AX BI By Ce Ba Ao AM As HNd0 HQd0 HBd0 Bh AI AT
         refine bM fJ (Jt [some (55, .pointer (some ⟨q, 0, none⟩)), some (56, sl us n), some (57, .int .i64 x), some (58, .pointer (some ⟨q, 0, none⟩)), some (59, sl us n), some (60, .int .i64 x), some (61, .pointer (some ⟨us, x, none⟩)), some (62, .slice An l0.length Am), some (63, .int .i64 k), some (64, .slice (some ⟨wd.heap.size, 0, none⟩) 1 1), some (65, .slice (some ⟨Aq, 0, none⟩) (l0.length + 1) Al), some (66, .pointer (some ⟨us, x, none⟩)), none] [(7, ab q), (11, .int .i64 x), (8, .int .i64 k)] (fH 9 10 12 wd (wd.alloc (.cells #[.int .i64 k] 3)) w2 w3)) (by kernel_rfl) (by kernel_rfl) ?_ (bV ⟨?_, ?_, ?_, ?_, ?_, ?_, ?_, ?_, ?_, ?_, ?_, ?_, ?_, trivial⟩) ?_ ?_
         · exact ⟨fun p hp => by simp at hp; rcases hp with rfl | rfl | rfl <;> rfl, fun i d v _ hL => (by cases hL), Bq⟩
         · intro ρ X L hc hf hL hd Ab hJ
           have k7 : ρ (.tmp 7) = ab q := hJ.base (7, ab q) (by simp)
           refine aa (v := .pointer (some ⟨q, 0, none⟩)) (w' := X) ?_ (hJ.put Ak.out rfl (by rw [an (by decide) (by decide) (by decide)]; exact hJ.wd))
           clear hd Ab hJ hL
           go_simp
         · intro ρ X L hc hf hL hd Ab hJ
           have Da : ρ (.tmp 55) = .pointer (some ⟨q, 0, none⟩) := hJ.vals 0 55 (.pointer (some ⟨q, 0, none⟩)) rfl (hd ⟨0, .data⟩ (by simp) rfl)
           have Ai : L 12 = false := ah (by kernel_rfl) Ab (k := 1) (by simp) hL
           have hx := LH.out X (aZ hJ.wd Ai)
           clear Ai
           refine aa (v := sl us n) (w' := X) ?_ (hJ.put Ak.out rfl (by rw [an (by decide) (by decide) (by decide)]; exact hJ.wd))
           clear hd Ab hJ hL
           go_simp
         · intro ρ X L hc hf hL hd Ab hJ
           have Cn : ρ (.tmp 11) = .int .i64 x := hJ.base (11, .int .i64 x) (by simp)
           refine aa (v := .int .i64 x) (w' := X) ?_ (hJ.put Ak.out rfl (by rw [an (by decide) (by decide) (by decide)]; exact hJ.wd))
           clear hd Ab hJ hL
           go_simp
         · intro ρ X L hc hf hL hd Ab hJ
           have k7 : ρ (.tmp 7) = ab q := hJ.base (7, ab q) (by simp)
           refine aa (v := .pointer (some ⟨q, 0, none⟩)) (w' := X) ?_ (hJ.put Ak.out rfl (by rw [an (by decide) (by decide) (by decide)]; exact hJ.wd))
           clear hd Ab hJ hL
           go_simp
         · intro ρ X L hc hf hL hd Ab hJ
           have Dp : ρ (.tmp 58) = .pointer (some ⟨q, 0, none⟩) := hJ.vals 3 58 (.pointer (some ⟨q, 0, none⟩)) rfl (hd ⟨3, .data⟩ (by simp) rfl)
           have Ai : L 12 = false := ah (by kernel_rfl) Ab (k := 4) (by simp) hL
           have hx := LH.out X (aZ hJ.wd Ai)
           clear Ai
           refine aa (v := sl us n) (w' := X) ?_ (hJ.put Ak.out rfl (by rw [an (by decide) (by decide) (by decide)]; exact hJ.wd))
           clear hd Ab hJ hL
           go_simp
         · intro ρ X L hc hf hL hd Ab hJ
           have Cn : ρ (.tmp 11) = .int .i64 x := hJ.base (11, .int .i64 x) (by simp)
           refine aa (v := .int .i64 x) (w' := X) ?_ (hJ.put Ak.out rfl (by rw [an (by decide) (by decide) (by decide)]; exact hJ.wd))
           clear hd Ab hJ hL
           go_simp
         · intro ρ X L hc hf hL hd Ab hJ
           have Dh : ρ (.tmp 59) = sl us n := hJ.vals 4 59 (sl us n) rfl (hd ⟨4, .data⟩ (by simp) rfl)
           have Do : ρ (.tmp 60) = .int .i64 x := hJ.vals 5 60 (.int .i64 x) rfl (hd ⟨5, .data⟩ (by simp) rfl)
           refine aa (v := .pointer (some ⟨us, x, none⟩)) (w' := X) ?_ (hJ.put Ak.out rfl (by rw [an (by decide) (by decide) (by decide)]; exact hJ.wd))
           clear hd Ab hJ hL
           go_simp
         · intro ρ X L hc hf hL hd Ab hJ
           have CR : ρ (.tmp 61) = .pointer (some ⟨us, x, none⟩) := hJ.vals 6 61 (.pointer (some ⟨us, x, none⟩)) rfl (hd ⟨6, .data⟩ (by simp) rfl)
           have Ai : L 12 = false := ah (by kernel_rfl) Ab (k := 7) (by simp) hL
           have hx := LR.out X (aZ hJ.wd Ai)
           clear Ai
           refine aa (v := .slice An l0.length Am) (w' := X) ?_ (hJ.put Ak.out rfl (by rw [an (by decide) (by decide) (by decide)]; exact hJ.wd))
           clear hd Ab hJ hL
           go_simp
         · intro ρ X L hc hf hL hd Ab hJ
           have k8 : ρ (.tmp 8) = .int .i64 k := hJ.base (8, .int .i64 k) (by simp)
           refine aa (v := .int .i64 k) (w' := X) ?_ (hJ.put Ak.out rfl (by rw [an (by decide) (by decide) (by decide)]; exact hJ.wd))
           clear hd Ab hJ hL
           go_simp
         · intro ρ X L hc hf hL hd Ab hJ
           have CS : ρ (.tmp 63) = .int .i64 k := hJ.vals 8 63 (.int .i64 k) rfl (hd ⟨8, .data⟩ (by simp) rfl)
           have AF : L 10 = false := by cases e : L 10 with | false => rfl | true => (have := Ab 10 _ rfl e ⟨9, .data⟩ (by simp) rfl; rw [show (⟨9, .data⟩ : Edge).on = 9 from rfl] at this; rw [hL] at this; cases this)
           have Ai : L 12 = false := ah (by kernel_rfl) Ab (k := 9) (by simp) hL
           have hX := hJ.wd.trans (jo hL AF Ai)
           refine aa (v := .slice (some ⟨wd.heap.size, 0, none⟩) 1 1) (w' := wd.alloc (.cells #[.int .i64 k] 3)) ?_ (hJ.put Ak.out rfl ((em aG (by rw [aj (by decide)]; exact AF) (by rw [aj (by decide)]; exact Ai)).symm))
           subst hX
           clear hd Ab hJ hL AF Ai
           go_simp
         · intro ρ X L hc hf hL hd Ab hJ
           have CG : ρ (.tmp 62) = .slice An l0.length Am := hJ.vals 7 62 (.slice An l0.length Am) rfl (hd ⟨7, .data⟩ (by simp) rfl)
           have CB : ρ (.tmp 64) = .slice (some ⟨wd.heap.size, 0, none⟩) 1 1 := hJ.vals 9 64 (.slice (some ⟨wd.heap.size, 0, none⟩) 1 1) rfl (hd ⟨9, .data⟩ (by simp) rfl)
           have Cu : L 9 = true := hd ⟨9, .data⟩ (by simp) rfl
           have Ai : L 12 = false := ah (by kernel_rfl) Ab (k := 10) (by simp) hL
           have hX := hJ.wd.trans (em Cu hL Ai)
           refine eI _ _ 26 rfl CG CB (u := .slice (some ⟨Aq, 0, none⟩) (l0.length + 1) Al) (w' := w2) (by rw [hX]; exact BF.out) (hJ.put Ak.out rfl ((en aG (by rw [aj (by decide)]; exact Ai)).symm))
         · intro ρ X L hc hf hL hd Ab hJ
           have Dl : ρ (.tmp 56) = sl us n := hJ.vals 1 56 (sl us n) rfl (hd ⟨1, .data⟩ (by simp) rfl)
           have Di : ρ (.tmp 57) = .int .i64 x := hJ.vals 2 57 (.int .i64 x) rfl (hd ⟨2, .data⟩ (by simp) rfl)
           refine aa (v := .pointer (some ⟨us, x, none⟩)) (w' := X) ?_ (hJ.put Ak.out rfl (by rw [an (by decide) (by decide) (by decide)]; exact hJ.wd))
           clear hd Ab hJ hL
           go_simp
         · intro ρ X L hc hf hL hd Ab hJ
           have Dc : ρ (.tmp 66) = .pointer (some ⟨us, x, none⟩) := hJ.vals 11 66 (.pointer (some ⟨us, x, none⟩)) rfl (hd ⟨11, .data⟩ (by simp) rfl)
           have CX : ρ (.tmp 65) = .slice (some ⟨Aq, 0, none⟩) (l0.length + 1) Al := hJ.vals 10 65 (.slice (some ⟨Aq, 0, none⟩) (l0.length + 1) Al) rfl (hd ⟨10, .data⟩ (by simp) rfl)
           have AF : L 10 = true := hd ⟨10, .data⟩ (by simp) rfl
           have hX := hJ.wd.trans (en AF hL)
           refine bN (w' := w3) ?_ (hJ.last rfl ((d9 aG).symm))
           subst hX
           clear hd Ab hJ hL AF
           rw [← BY.out]
           go_simp
         · intro c a' w' _ hE
           exact hE.elim
         · rintro ⟨Ad, df⟩ w' Av AK ⟨L, hL, hJ⟩ Aw
           simp only at AK Av
           subst AK
           have Cx : w3 = w' := (hJ.wd.trans (d9 (hL 12 (by decide)))).symm
           subst Cx
           have Ay := dg 55 66 (by kernel_rfl) Av Aw
           simp only [zr, Nat.reduceLT, Nat.reduceAdd, true_or, or_true, or_self, if_true, if_false] at Ay
           rw [Ay]
           clear Ay hJ hL Aw Av Ak BF BY LH LQ LR q1 q2 Bq
           generalize Ad.getD 55 undef = x55
           generalize Ad.getD 56 undef = x56
           generalize Ad.getD 57 undef = x57
           generalize Ad.getD 58 undef = x58
           generalize Ad.getD 59 undef = x59
           generalize Ad.getD 60 undef = x60
           generalize Ad.getD 61 undef = x61
           generalize Ad.getD 62 undef = x62
           generalize Ad.getD 63 undef = x63
           generalize Ad.getD 64 undef = x64
           generalize Ad.getD 65 undef = x65
           generalize Ad.getD 66 undef = x66
           have Be := hide (HG.out.add HRr.out Cl.out HXx.out Bz Bp)
           go_wp2_with fail
           go_roundw
           case rel => exact ⟨j + 1, _, _, by omega, by go_num, Be, HN0a, AE, AC⟩
           case measure => simp [intOf]; omega
       · have Be := hide (HG.out.next HRr.out BT.out (by omega))
         have q0 := HQ.out.get (i := 0) rfl
         have q1 := HQ.out.get (i := 1) rfl
         have q2 := HQ.out.get (i := 2) rfl
         have CL := hide (eJ (w := wr3) (k := r.kind) (h := (hm : Int)) (v := .slice bd r.body.length bp))
         cases htk : decide (r.kind = 3) with
         | true =>
          have Ar : Hid (kT r = false) := hide (by unfold kT; rw [htk]; rfl)
          rw [htk] at CL
          clear htk
          have Ap : Hid (opK T kT (k + 1) = opK T kT k) := hide (by rw [iY, AD.out, if_neg (by rw [Ar.out]; decide)])
          go_wp2_with (go_at_call 176; refine CL.out.mono ?_; rintro _ w5 ⟨rfl, hb⟩; have Ag := hide hb; clear hb)
          go_roundw
          case rel => exact ⟨k + 1, _, _, by have := HL.out; omega, by go_num, Be, hide (by rw [Bg.out, Ap.out]; exact HN.out.go Ag.out), hide (HBq.out.trans (Ag.out.mono HBq.out.size))⟩
          case measure => have := HL.out; simp [intOf]; omega
         | false =>
          have Ar : Hid (kT r = true) := hide (by unfold kT; rw [htk]; rfl)
          rw [htk] at CL
          clear htk
          have Ap : Hid (opK T kT (k + 1) = ap (opK T kT k) hm (aC (opK T kT k hm))) := hide (by rw [iY, AD.out, if_pos Ar.out, BC.out])
          go_upto_region 13 with (go_at_call 176; refine CL.out.mono ?_; rintro _ w5 ⟨rfl, hb⟩; have Ag := hide hb; clear hb)
          have AG := hide (HN.out.go Ag.out)
          have BL := hide (HQ.out.keep (Ag.out.block _ HQ.out.lt))
          have BU := hide (HBq.out.trans (Ag.out.mono HBq.out.size))
          clear HN HQ HBq Ag q0 q1 q2 CL
          have s3 := AG.out.bx.get (i := 3) rfl
          have q1 := BL.out.get (i := 1) rfl
          have co := AG.out.fo.get (aY AV)
          have zo := AG.out.fo.frz hm
          obtain ⟨v1, BJ⟩ : ∃ v1, IntKind.i64.wrap (opK T kT k hm + 1) = v1 := ⟨_, rfl⟩
          have HV : Hid (aC (opK T kT k hm) = v1) := hide BJ
          have Ch := hide (AG.out.setO AV v1)
          have Cg := hide (BU.out.setCell (p := ⟨op, hm, none⟩) AG.out.lo.2.2.2 (.int .i64 v1))
          generalize opK T kT k hm = xo at co BJ
          clear AG BL BU
          go_wp2_with fail
          go_roundw
          case rel => exact ⟨k + 1, _, _, by have := HL.out; omega, by go_num, Be, hide (by rw [Bg.out, Ap.out, HV.out]; exact Ch.out), Cg⟩
          case measure => have := HL.out; simp [intOf]; omega
    · have AU : k = T.rules.length := by omega
      have Aj : Hid (Nw W.heap.size q us ms rr op n T.rules.length (d8 T kA T.rules.length) (cX T kT (opK T kT T.rules.length) 0) H vs wr) := hide (by have := HN.out; rw [AU] at this; exact this)
      have Ct : Hid (Gu T kA n T.rules.length 0 H) := hide (by have := HG.out; rw [AU] at this; exact this)
      have Ax := hide HBr.out
      clear HN HG HBr AU
      have c2 := (At.out.keep (Ax.out.block _ At.out.lt)).get (i := 2) rfl
      go_wp2_with fail
      clear c2
      go_loopw [83] (fun x wr => ∃ k : Nat, k ≤ T.rules.length ∧ x = .int .i64 k ∧ Hid (Nw W.heap.size q us ms rr op n T.rules.length (d8 T kA T.rules.length) (cX T kT (opK T kT T.rules.length) k) H vs wr) ∧ Hid (Below W.heap.size W wr)) (fun x _ => T.rules.length - (intOf x).toNat)
      case atStart => exact ⟨0, by omega, rfl, Aj, Ax⟩
      case round =>
       clear Aj Ax
       rename World => wr5
       obtain ⟨k, hk, rfl, HN, HBr⟩ := hrel
       by_cases Au : k < T.rules.length
       · obtain ⟨r, hr⟩ := am Au
         obtain ⟨h0, h1⟩ := HP.out.head r (List.mem_of_getElem? hr)
         obtain ⟨hm, Az⟩ := Int.eq_ofNat_of_zero_le h0
         have AV : hm < n := by omega
         have AL : ag T k = (hm : Int) := by unfold ag; rw [Int.toNat_natCast, hr]; exact Az
         have AS : aA T kT k = kT r := by unfold aA; rw [Int.toNat_natCast, hr]; rfl
         have AP : aq T k = r.body := by unfold aq; rw [Int.toNat_natCast, hr]; rfl
         have hR := TR.keep HBr.out.block Bv.out
         obtain ⟨gr, go, bd, bp, rfl, Bm, x0, x1, x2, -, BO, AH⟩ := dZ hR.rules hr
         rw [Az] at x1
         have AB := ac wr5 (.cells #[.int .i64 r.kind, .int .i64 hm, .slice bd r.body.length bp] 114)
         have HQ : Hid (Fx wr5.heap.size 114 [.int .i64 r.kind, .int .i64 hm, .slice bd r.body.length bp] (wr5.alloc (.cells #[.int .i64 r.kind, .int .i64 hm, .slice bd r.body.length bp] 114))) := hide (heap_alloc_new wr5 _)
         have HNq := hide (HN.out.go AB)
         have HBq := hide (HBr.out.trans (AB.mono HBr.out.size))
         have BC := hide AL
         have AD := hide AS
         have AZ := hide AP
         have HL := hide Au
         clear hr h0 h1 Az hR AB AH HN HBr Bm AL AS AP
         go_upto_region 18 with fail
         clear x0 x1 x2
         generalize wr5.alloc (.cells #[.int .i64 r.kind, .int .i64 hm, .slice bd r.body.length bp] 114) = wq at *
         obtain ⟨qr, AN⟩ : ∃ qr, wr5.heap.size = qr := ⟨_, rfl⟩
         rw [AN] at HQ ⊢
         clear AN
         have q0 := HQ.out.get (i := 0) rfl
         have q1 := HQ.out.get (i := 1) rfl
         have q2 := HQ.out.get (i := 2) rfl
         have CL := hide (eJ (w := wq) (k := r.kind) (h := (hm : Int)) (v := .slice bd r.body.length bp))
         cases htk : decide (r.kind = 3) with
         | true =>
          have Ar : Hid (kT r = false) := hide (by unfold kT; rw [htk]; rfl)
          have Ap : Hid (cX T kT (opK T kT T.rules.length) (k + 1) = cX T kT (opK T kT T.rules.length) k) := hide (by rw [fN, AD.out, Ar.out]; rfl)
          rw [htk] at CL
          clear htk
          go_wp2_with (go_at_call 176; refine CL.out.mono ?_; rintro _ w5 ⟨rfl, hb⟩; have Ag := hide hb; clear hb)
          go_roundw
          case rel => exact ⟨k + 1, by have := HL.out; omega, by go_num, hide (by rw [Ap.out]; exact HNq.out.go Ag.out), hide (HBq.out.trans (Ag.out.mono HBq.out.size))⟩
          case measure => have := HL.out; simp [intOf]; omega
         | false =>
          have Ar : Hid (kT r = true) := hide (by unfold kT; rw [htk]; rfl)
          rw [htk] at CL
          clear htk
          by_cases he : r.body.length = 0
          · have AQ : r.body.isEmpty = true := by rw [List.isEmpty_iff]; exact List.eq_nil_of_length_eq_zero he
            have Ap : Hid (cX T kT (opK T kT T.rules.length) (k + 1) = ap (cX T kT (opK T kT T.rules.length) k) hm 0) := hide (by rw [fN, AD.out, Ar.out, AZ.out, AQ, BC.out]; rfl)
            have BE : ((r.body.length : Int) == 0) = true := by simpa using he
            have Bb : Hid (∀ X, Below wq.heap.size wq X → X.cell? ⟨qr, 1, none⟩ = some (.int .i64 hm) ∧ X.cell? ⟨qr, 2, none⟩ = some (.slice bd r.body.length bp) ∧ X.cell? ⟨q, 3, none⟩ = some (sl op n) ∧ X.cell? ⟨op, hm, none⟩ = some (.int .i64 (cX T kT (opK T kT T.rules.length) k hm)) ∧ X.frozen? ⟨op, hm, none⟩ = false) := hide fun X hX => by
             have a := HQ.out.keep (hX.block _ HQ.out.lt)
             have b := HNq.out.go hX
             exact ⟨a.get (i := 1) rfl, a.get (i := 2) rfl, b.bx.get (i := 3) rfl, b.fo.get (aY AV), b.fo.frz hm⟩
            clear AQ
            rw [he] at *
            go_wp2_with (go_at_call 176; refine CL.out.mono ?_; rintro _ w5 ⟨rfl, hb⟩; have Ag := hide hb; obtain ⟨k1, k2, k3, k4, k5⟩ := Bb.out w5 hb; clear hb)
            go_roundw
            case rel => exact ⟨k + 1, by have := HL.out; omega, by go_num, hide (by rw [Ap.out]; exact (HNq.out.go Ag.out).setO AV 0), hide ((HBq.out.trans (Ag.out.mono HBq.out.size)).setCell (p := ⟨op, hm, none⟩) HNq.out.lo.2.2.2 (.int .i64 0))⟩
            case measure => have := HL.out; simp [intOf]; omega
          · have AQ : r.body.isEmpty = false := by cases hb : r.body with
             | nil => rw [hb] at he; simp at he
             | cons _ _ => rfl
            have Ap : Hid (cX T kT (opK T kT T.rules.length) (k + 1) = cX T kT (opK T kT T.rules.length) k) := hide (by rw [fN, AD.out, Ar.out, AZ.out, AQ]; rfl)
            have BE : ((r.body.length : Int) == 0) = false := by simpa using he
            have Cr : (r.body.length == 0) = false := by simpa using he
            have Bb : Hid (∀ X, Below wq.heap.size wq X → X.cell? ⟨qr, 2, none⟩ = some (.slice bd r.body.length bp)) := hide fun X hX => (HQ.out.keep (hX.block _ HQ.out.lt)).get (i := 2) rfl
            obtain ⟨bl, Cf⟩ : ∃ bl, r.body.length = bl := ⟨_, rfl⟩
            rw [Cf] at Bb he BE Cr CL q2 BO
            clear AQ
            go_wp2_with (go_at_call 176; refine CL.out.mono ?_; rintro _ w5 ⟨rfl, hb⟩; have Ag := hide hb; have k2 := Bb.out w5 hb; clear hb)
            go_roundw
            case rel => exact ⟨k + 1, by have := HL.out; omega, by go_num, hide (by rw [Ap.out]; exact HNq.out.go Ag.out), hide (HBq.out.trans (Ag.out.mono HBq.out.size))⟩
            case measure => have := HL.out; simp [intOf]; omega
       · have AU : k = T.rules.length := by omega
         have Aj : Hid (Nw W.heap.size q us ms rr op n T.rules.length (d8 T kA T.rules.length) (cX T kT (opK T kT T.rules.length) T.rules.length) H vs wr5) := hide (by have := HN.out; rw [AU] at this; exact this)
         clear HN
         have c0 := Aj.out.bx.get (i := 0) rfl
         have c1 := Aj.out.bx.get (i := 1) rfl
         have c2 := Aj.out.bx.get (i := 2) rfl
         have c3 := Aj.out.bx.get (i := 3) rfl
         have HX2r := hide (AR.out.keep (HBr.out.block _ AR.out.lt))
         have Dj : bq + 1 < W.heap.size := AR.out.lt
         go_upto_region 21 with fail
         refine wp_region_lit ?_
         refine wpList_plain rfl fun K hK => ?_
         go_simp
         refine hK _ _ ?_
         clear hK
         refine wpList_plain rfl fun K hK => ?_
         refine wp_store_row 178 _ _ rfl (bq + 1) _ rfl rfl _ _ HX2r.out (by kernel_rfl) rfl (by simp [sl, Value.oneCell']) ?_
         refine hK _ _ ?_
         clear hK
         have AJ := hide (setRow_heap wr5 (bq + 1) _ #[sl us n, sl ms T.rules.length, sl rr T.rules.length, sl op n] _ _ HX2r.out)
         have CI := hide (Aj.out.far (w' := wr5.setRow (bq + 1) #[sl us n, sl ms T.rules.length, sl rr T.rules.length, sl op n]) (fun g hg _ => setRow_other _ _ _ _ (by omega)) HB.out.size)
         have Cw := hide (iV (b := bq + 1) (HB.out.trans (HBr.out.mono HB.out.size)) (by rw [Cy.out]; omega) #[sl us n, sl ms T.rules.length, sl rr T.rules.length, sl op n])
         generalize wr5.setRow (bq + 1) #[sl us n, sl ms T.rules.length, sl rr T.rules.length, sl op n] = Y at *
         clear Aj HBr c0 c1 c2 c3 HX2r AR
         go_wp2_with fail
         refine bodyPost_ret (v := .agg #[sl us n, sl ms T.rules.length, sl rr T.rules.length, sl op n]) (uG rfl AJ.out) rfl ?_
         exact ⟨q, us, ms, rr, op, vs, H, rfl, CI.out, fun z hz => by have := Ct.out.u z hz; simpa using this, Cw.out⟩
end Go.Proofs.YtmlhcncagdfjfaaGreat.Fa
