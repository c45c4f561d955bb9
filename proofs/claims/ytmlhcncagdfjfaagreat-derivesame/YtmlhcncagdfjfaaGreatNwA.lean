import Derived.Test.YtmlhcncagdfjfaaGreatNob
set_option maxRecDepth 100000
set_option maxHeartbeats 12800000
namespace Go.Proofs.YtmlhcncagdfjfaaGreat.Fa
open Go.RowKit Rg
theorem pO {w : World} {T : Th} {F : List Int} {n : Nat} {fa ra ba : Option Addr} {fc rc bc : Nat} (h : TA w.heap.size w T fa fc ra rc ba bc) (hp : Pf T F n) :
    Calls Tryz.prog 173 #[tv T fa fc ra rc ba bc, .func (.func 175) #[] #[], .func (.func 176) #[] #[]] w fun o w' => ∃ q us ms rr op vs H, o = .returned (.agg (uv us ms rr op n T.rules.length).toArray) ∧ Nw w.heap.size q us ms rr op n T.rules.length (d8 T kA T.rules.length) (cU T kT (opK T kT T.rules.length) T.rules.length) H vs w' ∧ (∀ z : Nat, z < n → (H 0).getD z [] = dI T kA T.rules.length z) ∧ Below w.heap.size w w' := by
 obtain ⟨iL, CE, Ch, Cm, Ck⟩ := info_parts m7
 obtain ⟨iB, CG, Cq, CA, Cu⟩ := info_parts jK
 obtain ⟨iI, Br, Bk, BA, Bg⟩ := info_parts gW
 have CQ := hp.n4
 have CS : T.rules.length ≤ 4096 := hp.ok.rl
 have BX : ∀ W, (Instr.makeSlice 22 (.int .i64 T.lits) (.int .i64 T.lits)).run Tryz.prog W = .ok (sl W.heap.size n) (W.alloc (.cells (Array.replicate n (.slice none 0 0)) 26)) := fun W => by rw [hp.ln]; exact aK (P := Tryz.prog) Tryz.underlying22 CE Ch Cm rfl n (by rw [Ck]; omega) (by unfold maxLen; omega) W
 have BH : ∀ W, (Instr.makeSlice 26 (.int .i64 T.lits) (.int .i64 T.lits)).run Tryz.prog W = .ok (sl W.heap.size n) (W.alloc (.cells (Array.replicate n (.int .i64 0)) 3)) := fun W => by rw [hp.ln]; exact aK (P := Tryz.prog) Tryz.underlying26 Br Bk BA rfl n (by rw [Bg]; omega) (by unfold maxLen; omega) W
 have Cc : ∀ W, (Instr.makeSlice 26 (.int .i64 T.rules.length) (.int .i64 T.rules.length)).run Tryz.prog W = .ok (sl W.heap.size T.rules.length) (W.alloc (.cells (Array.replicate T.rules.length (.int .i64 0)) 3)) := fun W => aK (P := Tryz.prog) Tryz.underlying26 Br Bk BA rfl T.rules.length (by rw [Bg]; omega) (by unfold maxLen; omega) W
 have BW : ∀ W, (Instr.makeSlice 106 (.int .i64 T.rules.length) (.int .i64 T.rules.length)).run Tryz.prog W = .ok (sl W.heap.size T.rules.length) (W.alloc (.cells (Array.replicate T.rules.length (.bool false)) 4)) := fun W => aK (P := Tryz.prog) Tryz.underlying106 CG Cq CA rfl T.rules.length (by rw [Cu]; omega) (by unfold maxLen; omega) W
 have By := ac w (.cells #[.int .i64 T.lits, .slice fa T.foes.length fc, .slice ra T.rules.length rc, .slice ba T.beats.length bc] 25)
 have Bs := ac (w.alloc (.cells #[.int .i64 T.lits, .slice fa T.foes.length fc, .slice ra T.rules.length rc, .slice ba T.beats.length bc] 25)) (.cells #[.slice none 0 0, .slice none 0 0, .slice none 0 0, .slice none 0 0] 178)
 have hB := By.trans (Bs.mono By.size)
 have BF : Fx w.heap.size 25 [.int .i64 T.lits, .slice fa T.foes.length fc, .slice ra T.rules.length rc, .slice ba T.beats.length bc] ((w.alloc (.cells #[.int .i64 T.lits, .slice fa T.foes.length fc, .slice ra T.rules.length rc, .slice ba T.beats.length bc] 25)).alloc (.cells #[.slice none 0 0, .slice none 0 0, .slice none 0 0, .slice none 0 0] 178)) := (Bs.block _ (by simp)).trans (heap_alloc_new w _)
 have BI : Fx (w.heap.size + 1) 178 [.slice none 0 0, .slice none 0 0, .slice none 0 0, .slice none 0 0] ((w.alloc (.cells #[.int .i64 T.lits, .slice fa T.foes.length fc, .slice ra T.rules.length rc, .slice ba T.beats.length bc] 25)).alloc (.cells #[.slice none 0 0, .slice none 0 0, .slice none 0 0, .slice none 0 0] 178)) := by
  have := heap_alloc_new (w.alloc (.cells #[.int .i64 T.lits, .slice fa T.foes.length fc, .slice ra T.rules.length rc, .slice ba T.beats.length bc] 25)) (.cells #[.slice none 0 0, .slice none 0 0, .slice none 0 0, .slice none 0 0] 178)
  simpa [Fx] using this
 have Bu := hide (TR.go hB h)
 have HP := hide hp
 have HB := hide hB
 have Av := hide BF
 have AS := hide BI
 clear h hp hB By Bs
 go_enter Tryz.func173, Tryz.ntmps173
 go_upto_region 1 with fail
 clear BF BI
 generalize (w.alloc (.cells #[.int .i64 T.lits, .slice fa T.foes.length fc, .slice ra T.rules.length rc, .slice ba T.beats.length bc] 25)).alloc (.cells #[.slice none 0 0, .slice none 0 0, .slice none 0 0, .slice none 0 0] 178) = W at *
 obtain ⟨bq, Bm⟩ : ∃ bq, w.heap.size = bq := ⟨_, rfl⟩
 have Cp := hide Bm
 rw [Bm] at Av AS ⊢
 clear Bm
 have HDr := hide ((Below.refl W.heap.size W).drew)
 obtain ⟨W0, Bt⟩ : ∃ W0, W.drew = W0 := ⟨_, rfl⟩
 have HX1d := hide (Av.out.keep (HDr.out.block _ Av.out.lt))
 have Ae : Hid (fK [some 14, some 15, some 16, some 17, some 18, some 19, some 20, some 21, some 22, some 23, some 24, some 25, some 26, some 27, some 28, some 7, none] [(3, ab bq)] = true) := hide rfl
 rw [Bt] at HX1d HDr
 have Af : Hid (∀ X, Below W0.heap.size W0 X → X.cell? ⟨bq, 0, none⟩ = some (.int .i64 T.lits) ∧ X.cell? ⟨bq, 2, none⟩ = some (.slice ra T.rules.length rc)) := hide fun X hX => by
  have hf := HX1d.out.keep (hX.block _ HX1d.out.lt)
  exact ⟨hf.get (i := 0) rfl, hf.get (i := 2) rfl⟩
 refine bM fI (Jl 16 [some 14, some 15, some 16, some 17, some 18, some 19, some 20, some 21, some 22, some 23, some 24, some 25, some 26, some 27, some 28, some 7, none] [(3, ab bq)] (ud T.rules.length ra rc T bq n W0.heap.size) (sY T.rules.length n W0) W0) (by kernel_rfl) (by kernel_rfl) ?_ (bT ⟨?_, ?_, ?_, ?_, ?_, ?_, ?_, ?_, ?_, ?_, ?_, ?_, ?_, ?_, ?_, ?_, ?_, trivial⟩) ?_ ?_
 · refine ⟨fun _ => ?_, fun e => by cases e⟩
   show Jg _ _ _ W0 _ _ W.drew
   rw [Bt]
   exact Jg.start.2 fun p hp => by simp at hp; subst hp; rfl
 · intro ρ X L hc hf hL hd Ab Ac
   have Aa : L 16 = false := ah (by kernel_rfl) Ab (k := 0) (by simp) hL
   have hJ := Ac.1 Aa
   obtain ⟨c0, c2⟩ := Af.out X hJ.low
   have k3 : ρ (.tmp 3) = ab bq := hJ.base (3, ab bq) (by simp)
   refine aa (v := ab bq) (w' := X) ?_ ⟨fun _ => hJ.put Ae.out aV (i := 0) (d := 14) rfl (Below.refl _ _) (rfl), fun e => by rw [aj (by decide), Aa] at e; cases e⟩
   clear hd Ab hJ Ac hL Aa
   go_simp
 · intro ρ X L hc hf hL hd Ab Ac
   have Aa : L 16 = false := ah (by kernel_rfl) Ab (k := 1) (by simp) hL
   have hJ := Ac.1 Aa
   obtain ⟨c0, c2⟩ := Af.out X hJ.low
   obtain ⟨_, _, _, e1⟩ := hJ.get (i := 0) (d := 14) rfl (hd ⟨0, .data⟩ (by simp) rfl)
   have CU : ρ (.tmp 14) = ab bq := e1
   clear e1
   refine aa (v := .int .i64 T.lits) (w' := X) ?_ ⟨fun _ => hJ.put Ae.out aV (i := 1) (d := 15) rfl (Below.refl _ _) (rfl), fun e => by rw [aj (by decide), Aa] at e; cases e⟩
   clear hd Ab hJ Ac hL Aa
   go_simp
 · intro ρ X L hc hf hL hd Ab Ac
   have Aa : L 16 = false := ah (by kernel_rfl) Ab (k := 2) (by simp) hL
   have hJ := Ac.1 Aa
   obtain ⟨c0, c2⟩ := Af.out X hJ.low
   obtain ⟨_, _, _, e1⟩ := hJ.get (i := 1) (d := 15) rfl (hd ⟨1, .data⟩ (by simp) rfl)
   have Dk : ρ (.tmp 15) = .int .i64 T.lits := e1
   have BC := BX X
   clear e1
   refine aa (v := sl X.heap.size n) (w' := X.alloc (.cells (Array.replicate n (.slice none 0 0)) 26)) ?_ ⟨fun _ => hJ.put Ae.out aV (i := 2) (d := 16) rfl (ac X _) (⟨X.heap.size, rfl, by unfold Fx; rw [heap_alloc_new]; simp, Nat.le_refl _, by simp, hJ.low.size⟩), fun e => by rw [aj (by decide), Aa] at e; cases e⟩
   clear hd Ab hJ Ac hL Aa
   go_simp
 · intro ρ X L hc hf hL hd Ab Ac
   have Aa : L 16 = false := ah (by kernel_rfl) Ab (k := 3) (by simp) hL
   have hJ := Ac.1 Aa
   obtain ⟨c0, c2⟩ := Af.out X hJ.low
   have k3 : ρ (.tmp 3) = ab bq := hJ.base (3, ab bq) (by simp)
   refine aa (v := .pointer (some ⟨bq, 2, none⟩)) (w' := X) ?_ ⟨fun _ => hJ.put Ae.out aV (i := 3) (d := 17) rfl (Below.refl _ _) (rfl), fun e => by rw [aj (by decide), Aa] at e; cases e⟩
   clear hd Ab hJ Ac hL Aa
   go_simp
 · intro ρ X L hc hf hL hd Ab Ac
   have Aa : L 16 = false := ah (by kernel_rfl) Ab (k := 4) (by simp) hL
   have hJ := Ac.1 Aa
   obtain ⟨c0, c2⟩ := Af.out X hJ.low
   obtain ⟨_, _, _, e1⟩ := hJ.get (i := 3) (d := 17) rfl (hd ⟨3, .data⟩ (by simp) rfl)
   have Dl : ρ (.tmp 17) = .pointer (some ⟨bq, 2, none⟩) := e1
   clear e1
   refine aa (v := .slice ra T.rules.length rc) (w' := X) ?_ ⟨fun _ => hJ.put Ae.out aV (i := 4) (d := 18) rfl (Below.refl _ _) (rfl), fun e => by rw [aj (by decide), Aa] at e; cases e⟩
   clear hd Ab hJ Ac hL Aa
   go_simp
 · intro ρ X L hc hf hL hd Ab Ac
   have Aa : L 16 = false := ah (by kernel_rfl) Ab (k := 5) (by simp) hL
   have hJ := Ac.1 Aa
   obtain ⟨c0, c2⟩ := Af.out X hJ.low
   obtain ⟨_, _, _, e1⟩ := hJ.get (i := 4) (d := 18) rfl (hd ⟨4, .data⟩ (by simp) rfl)
   have Dd : ρ (.tmp 18) = .slice ra T.rules.length rc := e1
   clear e1
   refine aa (v := .int .i64 T.rules.length) (w' := X) ?_ ⟨fun _ => hJ.put Ae.out aV (i := 5) (d := 19) rfl (Below.refl _ _) (rfl), fun e => by rw [aj (by decide), Aa] at e; cases e⟩
   clear hd Ab hJ Ac hL Aa
   go_simp
 · intro ρ X L hc hf hL hd Ab Ac
   have Aa : L 16 = false := ah (by kernel_rfl) Ab (k := 6) (by simp) hL
   have hJ := Ac.1 Aa
   obtain ⟨c0, c2⟩ := Af.out X hJ.low
   obtain ⟨_, _, _, e1⟩ := hJ.get (i := 5) (d := 19) rfl (hd ⟨5, .data⟩ (by simp) rfl)
   have Dq : ρ (.tmp 19) = .int .i64 T.rules.length := e1
   have BC := Cc X
   clear e1
   refine aa (v := sl X.heap.size T.rules.length) (w' := X.alloc (.cells (Array.replicate T.rules.length (.int .i64 0)) 3)) ?_ ⟨fun _ => hJ.put Ae.out aV (i := 6) (d := 20) rfl (ac X _) (⟨X.heap.size, rfl, by unfold Fx; rw [heap_alloc_new, jf], Nat.le_refl _, by simp, hJ.low.size⟩), fun e => by rw [aj (by decide), Aa] at e; cases e⟩
   clear hd Ab hJ Ac hL Aa
   go_simp
 · intro ρ X L hc hf hL hd Ab Ac
   have Aa : L 16 = false := ah (by kernel_rfl) Ab (k := 7) (by simp) hL
   have hJ := Ac.1 Aa
   obtain ⟨c0, c2⟩ := Af.out X hJ.low
   have k3 : ρ (.tmp 3) = ab bq := hJ.base (3, ab bq) (by simp)
   refine aa (v := .pointer (some ⟨bq, 2, none⟩)) (w' := X) ?_ ⟨fun _ => hJ.put Ae.out aV (i := 7) (d := 21) rfl (Below.refl _ _) (rfl), fun e => by rw [aj (by decide), Aa] at e; cases e⟩
   clear hd Ab hJ Ac hL Aa
   go_simp
 · intro ρ X L hc hf hL hd Ab Ac
   have Aa : L 16 = false := ah (by kernel_rfl) Ab (k := 8) (by simp) hL
   have hJ := Ac.1 Aa
   obtain ⟨c0, c2⟩ := Af.out X hJ.low
   obtain ⟨_, _, _, e1⟩ := hJ.get (i := 7) (d := 21) rfl (hd ⟨7, .data⟩ (by simp) rfl)
   have Da : ρ (.tmp 21) = .pointer (some ⟨bq, 2, none⟩) := e1
   clear e1
   refine aa (v := .slice ra T.rules.length rc) (w' := X) ?_ ⟨fun _ => hJ.put Ae.out aV (i := 8) (d := 22) rfl (Below.refl _ _) (rfl), fun e => by rw [aj (by decide), Aa] at e; cases e⟩
   clear hd Ab hJ Ac hL Aa
   go_simp
 · intro ρ X L hc hf hL hd Ab Ac
   have Aa : L 16 = false := ah (by kernel_rfl) Ab (k := 9) (by simp) hL
   have hJ := Ac.1 Aa
   obtain ⟨c0, c2⟩ := Af.out X hJ.low
   obtain ⟨_, _, _, e1⟩ := hJ.get (i := 8) (d := 22) rfl (hd ⟨8, .data⟩ (by simp) rfl)
   have Do : ρ (.tmp 22) = .slice ra T.rules.length rc := e1
   clear e1
   refine aa (v := .int .i64 T.rules.length) (w' := X) ?_ ⟨fun _ => hJ.put Ae.out aV (i := 9) (d := 23) rfl (Below.refl _ _) (rfl), fun e => by rw [aj (by decide), Aa] at e; cases e⟩
   clear hd Ab hJ Ac hL Aa
   go_simp
 · intro ρ X L hc hf hL hd Ab Ac
   have Aa : L 16 = false := ah (by kernel_rfl) Ab (k := 10) (by simp) hL
   have hJ := Ac.1 Aa
   obtain ⟨c0, c2⟩ := Af.out X hJ.low
   obtain ⟨_, _, _, e1⟩ := hJ.get (i := 9) (d := 23) rfl (hd ⟨9, .data⟩ (by simp) rfl)
   have CT : ρ (.tmp 23) = .int .i64 T.rules.length := e1
   have BC := BW X
   clear e1
   refine aa (v := sl X.heap.size T.rules.length) (w' := X.alloc (.cells (Array.replicate T.rules.length (.bool false)) 4)) ?_ ⟨fun _ => hJ.put Ae.out aV (i := 10) (d := 24) rfl (ac X _) (⟨X.heap.size, rfl, by unfold Fx ct; rw [heap_alloc_new]; simp [List.map_const'], Nat.le_refl _, by simp, hJ.low.size⟩), fun e => by rw [aj (by decide), Aa] at e; cases e⟩
   clear hd Ab hJ Ac hL Aa
   go_simp
 · intro ρ X L hc hf hL hd Ab Ac
   have Aa : L 16 = false := ah (by kernel_rfl) Ab (k := 11) (by simp) hL
   have hJ := Ac.1 Aa
   obtain ⟨c0, c2⟩ := Af.out X hJ.low
   have k3 : ρ (.tmp 3) = ab bq := hJ.base (3, ab bq) (by simp)
   refine aa (v := ab bq) (w' := X) ?_ ⟨fun _ => hJ.put Ae.out aV (i := 11) (d := 25) rfl (Below.refl _ _) (rfl), fun e => by rw [aj (by decide), Aa] at e; cases e⟩
   clear hd Ab hJ Ac hL Aa
   go_simp
 · intro ρ X L hc hf hL hd Ab Ac
   have Aa : L 16 = false := ah (by kernel_rfl) Ab (k := 12) (by simp) hL
   have hJ := Ac.1 Aa
   obtain ⟨c0, c2⟩ := Af.out X hJ.low
   obtain ⟨_, _, _, e1⟩ := hJ.get (i := 11) (d := 25) rfl (hd ⟨11, .data⟩ (by simp) rfl)
   have Dh : ρ (.tmp 25) = ab bq := e1
   clear e1
   refine aa (v := .int .i64 T.lits) (w' := X) ?_ ⟨fun _ => hJ.put Ae.out aV (i := 12) (d := 26) rfl (Below.refl _ _) (rfl), fun e => by rw [aj (by decide), Aa] at e; cases e⟩
   clear hd Ab hJ Ac hL Aa
   go_simp
 · intro ρ X L hc hf hL hd Ab Ac
   have Aa : L 16 = false := ah (by kernel_rfl) Ab (k := 13) (by simp) hL
   have hJ := Ac.1 Aa
   obtain ⟨c0, c2⟩ := Af.out X hJ.low
   obtain ⟨_, _, _, e1⟩ := hJ.get (i := 12) (d := 26) rfl (hd ⟨12, .data⟩ (by simp) rfl)
   have CV : ρ (.tmp 26) = .int .i64 T.lits := e1
   have BC := BH X
   clear e1
   refine aa (v := sl X.heap.size n) (w' := X.alloc (.cells (Array.replicate n (.int .i64 0)) 3)) ?_ ⟨fun _ => hJ.put Ae.out aV (i := 13) (d := 27) rfl (ac X _) (⟨X.heap.size, rfl, by unfold Fx; rw [heap_alloc_new, jf], Nat.le_refl _, by simp, hJ.low.size⟩), fun e => by rw [aj (by decide), Aa] at e; cases e⟩
   clear hd Ab hJ Ac hL Aa
   go_simp
 · intro ρ X L hc hf hL hd Ab Ac
   have Aa : L 16 = false := ah (by kernel_rfl) Ab (k := 14) (by simp) hL
   have hJ := Ac.1 Aa
   obtain ⟨c0, c2⟩ := Af.out X hJ.low
   obtain ⟨lo, hi, AK, Bo⟩ := hJ.at_
   have l2 : L 2 = true := hd ⟨2, .data⟩ (by simp) rfl
   have l6 : L 6 = true := hd ⟨6, .data⟩ (by simp) rfl
   have Cw : L 10 = true := hd ⟨10, .data⟩ (by simp) rfl
   have BK : L 13 = true := hd ⟨13, .data⟩ (by simp) rfl
   obtain ⟨-, -, -, g0, e3, f3, a3, b3, n3⟩ := AK 2 16 rfl l2
   obtain ⟨-, -, -, g1, e6, f6, a6, b6, n6⟩ := AK 6 20 rfl l6
   obtain ⟨-, -, -, g2, e9, f9, a9, b9, n9⟩ := AK 10 24 rfl Cw
   obtain ⟨-, -, -, g3, BO, BS, Di, Dj, CC⟩ := AK 13 27 rfl BK
   have d1 := Bo 6 13 20 27 rfl rfl (by decide) l6 BK
   have Dp : ρ (.tmp 16) = sl g0 n := e3
   have Df : ρ (.tmp 20) = sl g1 T.rules.length := e6
   have CR : ρ (.tmp 24) = sl g2 T.rules.length := e9
   have CP : ρ (.tmp 27) = sl g3 n := BO
   refine aa (v := .agg #[sl g0 n, sl g1 T.rules.length, sl g2 T.rules.length, sl g3 n]) (w' := X) ?_ ⟨fun _ => hJ.put Ae.out aV (i := 14) (d := 28) rfl (Below.refl _ _) (⟨g0, g1, g2, g3, rfl, f3, f6, f9, BS, ⟨n3, n6, n9, CC⟩, by omega⟩), fun e => by rw [aj (by decide), Aa] at e; cases e⟩
   clear hd Ab hJ Ac hL Aa AK Bo d1 e3 e6 e9 BO f3 f6 f9 BS
   go_simp
 · intro ρ X L hc hf hL hd Ab Ac
   have Aa : L 16 = false := ah (by kernel_rfl) Ab (k := 15) (by simp) hL
   have hJ := Ac.1 Aa
   obtain ⟨c0, c2⟩ := Af.out X hJ.low
   refine aa (v := ab X.heap.size) (w' := X.alloc (.cells #[.slice none 0 0, .slice none 0 0, .slice none 0 0, .slice none 0 0] 178)) ?_ ⟨fun _ => hJ.put Ae.out aV (i := 15) (d := 7) rfl (ac X _) (⟨X.heap.size, [.slice none 0 0, .slice none 0 0, .slice none 0 0, .slice none 0 0], rfl, heap_alloc_new X _, rfl, hJ.low.size⟩), fun e => by rw [aj (by decide), Aa] at e; cases e⟩
   clear hd Ab hJ Ac hL Aa
   go_simp
 · intro ρ X L hc hf hL hd Ab Ac
   have hJ := Ac.1 hL
   obtain ⟨_, _, _, g0, g1, g2, g3, BV, f0, f1, f2, f3, ⟨m0, m1, m2, m3⟩, d1⟩ := hJ.get (i := 14) (d := 28) rfl (hd ⟨14, .data⟩ (by simp) rfl)
   obtain ⟨_, _, _, q, xs, e7, h0, Cl, hq⟩ := hJ.get (i := 15) (d := 7) rfl (hd ⟨15, .data⟩ (by simp) rfl)
   obtain ⟨t0, t1, t2, t3, rfl⟩ : ∃ t0 t1 t2 t3, xs = [t0, t1, t2, t3] := by
    match xs, Cl with
    | [t0, t1, t2, t3], _ => exact ⟨t0, t1, t2, t3, rfl⟩
   have CX : ρ (.tmp 28) = .agg #[sl g0 n, sl g1 T.rules.length, sl g2 T.rules.length, sl g3 n] := BV
   have k7 : ρ (.tmp 7) = ab q := e7
   have y0 := h0.get (i := 0) (v := t0) rfl
   have z0 := h0.frz 0
   have h1 := h0.set 0 (sl g0 n)
   have y1 := h1.get (i := 1) (v := t1) rfl
   have z1 := h1.frz 1
   have h2 := h1.set 1 (sl g1 T.rules.length)
   have y2 := h2.get (i := 2) (v := t2) rfl
   have z2 := h2.frz 2
   have h3 := h2.set 2 (sl g2 T.rules.length)
   have y3 := h3.get (i := 3) (v := t3) rfl
   have z3 := h3.frz 3
   have h4 := h3.set 3 (sl g3 n)
   have kp : ∀ {g t : Nat} {xs : List Value}, Fx g t xs X → t ≠ 178 → Fx g t xs ((((X.setCell ⟨q, 0, none⟩ (sl g0 n)).setCell ⟨q, 1, none⟩ (sl g1 T.rules.length)).setCell ⟨q, 2, none⟩ (sl g2 T.rules.length)).setCell ⟨q, 3, none⟩ (sl g3 n)) := fun hx ht => by
    have Cj := ao hx h0 ht
    exact hx.keep (by simp only [other_set Cj])
   have AH : Hid (sY T.rules.length n W0 (fF (fun s => ρ (.tmp s)) none undef) ((((X.setCell ⟨q, 0, none⟩ (sl g0 n)).setCell ⟨q, 1, none⟩ (sl g1 T.rules.length)).setCell ⟨q, 2, none⟩ (sl g2 T.rules.length)).setCell ⟨q, 3, none⟩ (sl g3 n))) := hide ⟨q, g0, g1, g2, g3, by rw [eR (by simp)]; exact k7, ⟨h4, kp f1 (by decide), kp f2 (by decide), kp f3 (by decide), pU (kp f0 (by decide)) m0, ⟨hq, m1, m2, m3⟩, d1, fun i v hv => by rw [List.getElem?_replicate] at hv; split at hv <;> cases hv; exact ⟨fun e => (by cases e), fun e => (by cases e)⟩⟩, ((((hJ.low.setCell (p := ⟨q, 0, none⟩) hq _).setCell (p := ⟨q, 1, none⟩) hq _).setCell (p := ⟨q, 2, none⟩) hq _).setCell (p := ⟨q, 3, none⟩) hq _)⟩
   refine bN (w' := ((((X.setCell ⟨q, 0, none⟩ (sl g0 n)).setCell ⟨q, 1, none⟩ (sl g1 T.rules.length)).setCell ⟨q, 2, none⟩ (sl g2 T.rules.length)).setCell ⟨q, 3, none⟩ (sl g3 n))) ?_ ⟨fun e => (by rw [aG] at e; cases e), fun _ => AH.out⟩
   clear hd Ab hJ Ac hL kp AH f0 f1 f2 f3 h1 h2 h3 h4 h0 BV e7
   go_simp
 · intro c a' w' _ hE
   exact hE.elim
 · rintro ⟨Ad, df⟩ w' Au AN ⟨L, hL, hJ⟩ Ay
   simp only at AN Au
   subst AN
   obtain ⟨q, us, ms, rr, op, e7, Ca, BU⟩ := hJ.2 (hL 16 (by decide))
   have e7 : Ad.getD 7 undef = ab q := e7
   have Az := d7 14 28 7 (by kernel_rfl) Au Ay
   simp only [zs, Nat.reduceLT, Nat.reduceAdd, true_or, or_true, or_self, false_and, ne_eq, Nat.reduceEqDiff, not_false_eq_true, not_true_eq_false, and_self, and_false, if_true, if_false, e7] at Az
   rw [Az]
   clear Az hJ hL Ay Au e7 BX BW BH Cc Af Ae
   generalize Ad.getD 14 undef = x14
   generalize Ad.getD 15 undef = x15
   generalize Ad.getD 16 undef = x16
   generalize Ad.getD 17 undef = x17
   generalize Ad.getD 18 undef = x18
   generalize Ad.getD 19 undef = x19
   generalize Ad.getD 20 undef = x20
   generalize Ad.getD 21 undef = x21
   generalize Ad.getD 22 undef = x22
   generalize Ad.getD 23 undef = x23
   generalize Ad.getD 24 undef = x24
   generalize Ad.getD 25 undef = x25
   generalize Ad.getD 26 undef = x26
   generalize Ad.getD 27 undef = x27
   generalize Ad.getD 28 undef = x28
   have Aj := hide Ca
   have Aw : Hid (Below W.heap.size W w') := hide (HDr.out.trans (BU.mono HDr.out.size))
   have Bi : W0.heap.size = W.heap.size := by rw [← Bt]; rfl
   rw [Bi] at Aj
   clear Ca BU Bi HDr HX1d
   have c2 := (Av.out.keep (Aw.out.block _ Av.out.lt)).get (i := 2) rfl
   go_wp2_with fail
   clear c2
   go_loopw [32] (fun x wr => ∃ (k : Nat) (H : Nat → List (List Int)) (vs : Nat → List Value), k ≤ T.rules.length ∧ x = .int .i64 k ∧ Hid (Gu T kA n k 0 H) ∧ Hid (Nw W.heap.size q us ms rr op n T.rules.length (d8 T kA k) (opK T kT k) H vs wr) ∧ Hid (Below W.heap.size W wr)) (fun x _ => T.rules.length - (intOf x).toNat)
   case atStart => exact ⟨0, _, _, by omega, rfl, hide Gu.start, Aj, Aw⟩
   case round =>
    clear Aj Aw
    obtain ⟨k, H, vs, hk, rfl, HG, HN, HBr⟩ := hrel
    by_cases AA : k < T.rules.length
    · obtain ⟨r, hr⟩ := am AA
      obtain ⟨h0, h1⟩ := HP.out.head r (List.mem_of_getElem? hr)
      obtain ⟨hm, At⟩ := Int.eq_ofNat_of_zero_le h0
      have AU : hm < n := by omega
      have AT : ag T k = (hm : Int) := by unfold ag; rw [Int.toNat_natCast, hr]; exact At
      have BQ : aA T kA k = kA r := by unfold aA; rw [Int.toNat_natCast, hr]; rfl
      have AL : aA T kT k = kT r := by unfold aA; rw [Int.toNat_natCast, hr]; rfl
      have AQ : aq T k = r.body := by unfold aq; rw [Int.toNat_natCast, hr]; rfl
      have hR := TR.keep HBr.out.block Bu.out
      obtain ⟨gr, go, bd, bp, rfl, Bf, x0, x1, x2, -, BY, AI⟩ := dY hR.rules hr
      have CJ : r.body.length ≤ 16 := (HP.out.ok.rule r (List.mem_of_getElem? hr)).2.2.2.2.1
      have Cr : Hid r.body.Nodup := hide (cN (bF (by omega) (HP.out.ok.rule r (List.mem_of_getElem? hr)).2.2.2.2.2).2)
      have CB : Hid (∀ x ∈ r.body, 0 ≤ x ∧ x < (n : Int)) := hide (HP.out.body r (List.mem_of_getElem? hr))
      have Cg : Hid (∀ X, Below W.heap.size W X → At1 X bd (aw r.body)) := hide fun X hX => by
       have h2 := TR.keep hX.block Bu.out
       obtain ⟨g3, o3, b3, p3, e3, BZ, -, -, x3, -, -, Ci⟩ := dY h2.rules hr
       cases e3
       have e4 : wr.cell? ⟨gr, go + k * 3 + 2, none⟩ = X.cell? ⟨gr, go + k * 3 + 2, none⟩ := (World.cell?_of_block (HBr.out.block gr BZ)).trans (World.cell?_of_block (hX.block gr BZ)).symm
       rw [x2, x3] at e4
       cases e4
       exact Ci.at1
      rw [At] at x1
      have Ax := ac wr (.cells #[.int .i64 r.kind, .int .i64 hm, .slice bd r.body.length bp] 114)
      have HQ : Hid (Fx wr.heap.size 114 [.int .i64 r.kind, .int .i64 hm, .slice bd r.body.length bp] (wr.alloc (.cells #[.int .i64 r.kind, .int .i64 hm, .slice bd r.body.length bp] 114))) := hide (heap_alloc_new wr _)
      have HNq := hide (HN.out.go Ax)
      have HBq := hide (HBr.out.trans (Ax.mono HBr.out.size))
      have HRr := hide hr
      have Bq := hide AT
      have Cn := hide BQ
      have AC := hide AL
      have Bc := hide AQ
      have HL := hide AA
      clear hr h0 h1 At hR Ax AI HN HBr Bf AT BQ AL AQ
      go_upto_region 5 with fail
      clear x0 x1 x2
      generalize wr.alloc (.cells #[.int .i64 r.kind, .int .i64 hm, .slice bd r.body.length bp] 114) = wq at *
      obtain ⟨qr, AR⟩ : ∃ qr, wr.heap.size = qr := ⟨_, rfl⟩
      rw [AR] at HQ ⊢
      clear AR
      have q0 := HQ.out.get (i := 0) rfl
      have q1 := HQ.out.get (i := 1) rfl
      have q2 := HQ.out.get (i := 2) rfl
      have CW := hide (tI (w := wq) (k := r.kind) (h := (hm : Int)) (v := .slice bd r.body.length bp))
      have Cb : Hid (kA r = true) := hide rfl
      have Bz : Hid (d8 T kA (k + 1) = ap (d8 T kA k) k (r.body.length : Nat)) := hide (by rw [kC, Cn.out, Bc.out, if_pos Cb.out])
      go_upto_region 6 with (go_at_call 175; refine CW.out.mono ?_; rintro _ w3 ⟨rfl, hb⟩; have AG := hide hb; clear hb)
      have AB := hide (HNq.out.go AG.out)
      have AE := hide (HQ.out.keep (AG.out.block _ HQ.out.lt))
      have BJ := hide (HBq.out.trans (AG.out.mono HBq.out.size))
      clear HNq HQ HBq AG q0 q1 q2 CW
      have s1 := AB.out.bx.get (i := 1) rfl
      have q2 := AE.out.get (i := 2) rfl
      have cm := AB.out.fm.get (aY HL.out)
      have zm := AB.out.fm.frz k
      have Bh := hide (AB.out.setM HL.out (r.body.length : Nat))
      have Bp := hide (AE.out.keep (w' := w3.setCell ⟨ms, k, none⟩ (.int .i64 (r.body.length : Nat))) (other_set (ao AE.out AB.out.fm (by decide))))
      have BR := hide (BJ.out.setCell (p := ⟨ms, k, none⟩) AB.out.lo.2.1 (.int .i64 (r.body.length : Nat)))
      have q2' := Bp.out.get (i := 2) rfl
      obtain ⟨Be, Bw⟩ : ∃ Be, ap (d8 T kA k) k (r.body.length : Nat) = Be := ⟨_, rfl⟩
      rw [Bw] at Bh Bz
      clear AB AE BJ Bw
      go_wp2_with fail
      clear s1 q2 cm zm q2'
      go_loopw [51] (fun x wr => ∃ (j : Nat) (H : Nat → List (List Int)) (vs : Nat → List Value), j ≤ r.body.length ∧ x = .int .i64 j ∧ Hid (Gu T kA n k j H) ∧ Hid (Nw W.heap.size q us ms rr op n T.rules.length Be (opK T kT k) H vs wr) ∧ Hid (Below W.heap.size W wr) ∧ Hid (Fx qr 114 [.int .i64 r.kind, .int .i64 hm, .slice bd r.body.length bp] wr)) (fun x _ => r.body.length - (intOf x).toNat)
      case atStart => exact ⟨0, _, _, by omega, rfl, HG, Bh, BR, Bp⟩
      case round =>
       clear HG Bh BR Bp
       rename World => wr3
       obtain ⟨j, H, vs, hj, rfl, HG, HN, HBq, HQ⟩ := hrel
       by_cases hjl : j < r.body.length
       · obtain ⟨x0, hx⟩ := am hjl
         obtain ⟨y0, y1⟩ := CB.out x0 (List.mem_of_getElem? hx)
         obtain ⟨x, rfl⟩ := Int.eq_ofNat_of_zero_le y0
         have Bj : x < n := by omega
         obtain ⟨gx, ox, rfl, cx⟩ := (Cg.out wr3 HBq.out).get hx
         have HXx := hide hx
         have Cd : Hid (∀ (c i : Nat) (l : List Int), c < 1 → (H c)[i]? = some l → l.length ≤ 4096) := hide fun c i l hc hl => HG.out.len (by have := HL.out; omega) (z := i) (by rw [← (show c = 0 by omega)]; exact hl)
         clear hx y0 y1
         go_upto_region 10 with fail
         have AJ := (Below.refl wr3.heap.size wr3).drew
         have HNd0 := hide (HN.out.go AJ)
         have HQd0 := hide (HQ.out.keep (AJ.block _ HQ.out.lt))
         have HBd0 := hide (HBq.out.trans (AJ.mono HBq.out.size))
         obtain ⟨wd, Bl⟩ : ∃ wd, wr3.drew = wd := ⟨_, rfl⟩
         rw [Bl] at HNd0 HQd0 HBd0
         obtain ⟨l0, An, Am, Bv, BG, AY, As⟩ := HNd0.out.h3.at (c := 0) (by omega) (show x < n from Bj)
         have AY : wd.cell? ⟨us, x, none⟩ = some (.slice An l0.length Am) := AY
         have CK : l0.length ≤ 4096 := Cd.out 0 _ _ (by omega) Bv
         have AO := ac wd (.cells #[.int .i64 k] 3)
         have Bn : W.heap.size ≤ wd.heap.size := HBd0.out.size
         obtain ⟨Aq, Al, w2, BE, Bb, Ah, BB, Ce⟩ := run_append_lies (P := Tryz.prog) (wd.alloc (.cells #[.int .i64 k] 3)) 26 26 W.heap.size 3 iI _ 1 8 Tryz.underlying26 Br Bk BA Bg rfl (by decide) (.slice An l0.length Am) l0.length (aw l0) (owns_keep As fun g hg => AO.block g (aD As hg)) ⟨wd.heap.size, 0, none⟩ 1 1 [.int .i64 k] rfl (World.news_of_block (cs := [.int .i64 k].toArray) (t := 3) (fr := (0, 0)) (heap_alloc_new wd (.cells #[.int .i64 k] 3))) (by simp [Value.oneCell']) (by decide) (by unfold maxLen; omega) (by omega) (by simp; omega) (wd.heap.size + 1) (by simp)
         have BL := hide BE
         have Ap : ∀ k, k < wd.heap.size → Value.ownBlock (.slice An l0.length Am) ≠ some k → w2.heap[k]? = wd.heap[k]? := fun k hk hn => (Ah.block k (by simp; omega) fun e => hn e.symm).trans (AO.block k hk)
         have AX := ay As (HNd0.out.h3.fx 0 (by omega)) (by decide)
         have AW := ay As HQd0.out (by decide)
         have Bx := ay As HNd0.out.bx (by decide)
         obtain ⟨w3, AP⟩ : ∃ w3, w2.setCell ⟨us, x, none⟩ (.slice (some ⟨Aq, 0, none⟩) (l0.length + 1) Al) = w3 := ⟨_, rfl⟩
         have BM := hide AP
         have HN0a : Hid (Nw W.heap.size q us ms rr op n T.rules.length Be (opK T kT k) (up H 0 ((H 0).set x (l0 ++ [(k : Int)]))) (up vs 0 ((vs 0).set x (.slice (some ⟨Aq, 0, none⟩) (l0.length + 1) Al))) w3) := hide (by rw [← AP]; exact HNd0.out.add (c := 0) (by omega) Bv BG Bb Ap (by rcases BB with h | h; exact .inl h; exact .inr (by omega)))
         have AE : Hid (Fx qr 114 [.int .i64 r.kind, .int .i64 hm, .slice (some ⟨gx, ox, none⟩) r.body.length bp] w3) := hide (by rw [← AP]; exact (HQd0.out.keep (Ap _ HQd0.out.lt AW)).keep (other_set (ao HQd0.out (HNd0.out.h3.fx 0 (by omega)) (by decide))))
         have AG : Hid (Below W.heap.size W w3) := hide (by rw [← AP]; exact (HBd0.out.trans (show Below W.heap.size wd w2 from (AO.mono Bn).trans ⟨Ah.os, Ah.tape, Ah.output, Ah.size, fun k hk => Ah.block k (by simp; omega) fun e => by have := (As.lt k e.symm).1; omega⟩)).setCell (p := ⟨us, x, none⟩) (HNd0.out.h3.lo 0 (by omega)) (.slice (some ⟨Aq, 0, none⟩) (l0.length + 1) Al))
         have Ba : ∀ {a : Addr} {v : Value}, wd.cell? a = some v → Value.ownBlock (.slice An l0.length Am) ≠ some a.block → ∀ X, X = wd ∨ X = wd.alloc (.cells #[.int .i64 k] 3) ∨ X = w2 → X.cell? a = some v := fun ha hn X hX => by
          have AA := World.block_lt_of_cell? wd _ ha
          rcases hX with rfl | rfl | rfl
          · exact ha
          · exact eA ha AO
          · exact (World.cell?_of_block (Ap _ AA hn)).trans ha
         have LH := hide (Ba (HNd0.out.bx.get (i := 0) (v := sl us n) rfl) Bx)
         have LQ := hide (Ba (HQd0.out.get (i := 1) rfl) AW)
         have LR := hide (Ba AY AX)
         have q1 : w2.cell? ⟨us, x, none⟩ = some (.slice An l0.length Am) := LR.out w2 (.inr (.inr rfl))
         have q2 : w2.frozen? ⟨us, x, none⟩ = false := ((HNd0.out.h3.fx 0 (by omega)).keep (Ap _ (HNd0.out.h3.fx 0 (by omega)).lt AX)).frz x
         have Ak : Hid (fK ([some (55, .pointer (some ⟨q, 0, none⟩)), some (56, sl us n), some (57, .int .i64 x), some (58, .pointer (some ⟨q, 0, none⟩)), some (59, sl us n), some (60, .int .i64 x), some (61, .pointer (some ⟨us, x, none⟩)), some (62, .slice An l0.length Am), some (63, .int .i64 k), some (64, .slice (some ⟨wd.heap.size, 0, none⟩) 1 1), some (65, .slice (some ⟨Aq, 0, none⟩) (l0.length + 1) Al), some (66, .pointer (some ⟨us, x, none⟩)), none].map fun p : Option (Nat × Value) => p.map Prod.fst) [(7, ab q), (11, .int .i64 x), (8, .int .i64 k)] = true) := hide rfl
         clear HN HQ HBq AY Ah Bb BE AW Bx AX BG BB Ce Ba Ap AO As HNd0 HQd0 HBd0 Bn AJ AP
         refine bM fI (Jt [some (55, .pointer (some ⟨q, 0, none⟩)), some (56, sl us n), some (57, .int .i64 x), some (58, .pointer (some ⟨q, 0, none⟩)), some (59, sl us n), some (60, .int .i64 x), some (61, .pointer (some ⟨us, x, none⟩)), some (62, .slice An l0.length Am), some (63, .int .i64 k), some (64, .slice (some ⟨wd.heap.size, 0, none⟩) 1 1), some (65, .slice (some ⟨Aq, 0, none⟩) (l0.length + 1) Al), some (66, .pointer (some ⟨us, x, none⟩)), none] [(7, ab q), (11, .int .i64 x), (8, .int .i64 k)] (fH 9 10 12 wd (wd.alloc (.cells #[.int .i64 k] 3)) w2 w3)) (by kernel_rfl) (by kernel_rfl) ?_ (bT ⟨?_, ?_, ?_, ?_, ?_, ?_, ?_, ?_, ?_, ?_, ?_, ?_, ?_, trivial⟩) ?_ ?_
         · exact ⟨fun p hp => by simp at hp; rcases hp with rfl | rfl | rfl <;> rfl, fun i d v _ hL => (by cases hL), Bl⟩
         · intro ρ X L hc hf hL hd Ab hJ
           have k7 : ρ (.tmp 7) = ab q := hJ.base (7, ab q) (by simp)
           refine aa (v := .pointer (some ⟨q, 0, none⟩)) (w' := X) ?_ (hJ.put Ak.out rfl (by rw [an (by decide) (by decide) (by decide)]; exact hJ.wd))
           clear hd Ab hJ hL
           go_simp
         · intro ρ X L hc hf hL hd Ab hJ
           have Dn : ρ (.tmp 55) = .pointer (some ⟨q, 0, none⟩) := hJ.vals 0 55 (.pointer (some ⟨q, 0, none⟩)) rfl (hd ⟨0, .data⟩ (by simp) rfl)
           have Ai : L 12 = false := ah (by kernel_rfl) Ab (k := 1) (by simp) hL
           have hx := LH.out X (aZ hJ.wd Ai)
           clear Ai
           refine aa (v := sl us n) (w' := X) ?_ (hJ.put Ak.out rfl (by rw [an (by decide) (by decide) (by decide)]; exact hJ.wd))
           clear hd Ab hJ hL
           go_simp
         · intro ρ X L hc hf hL hd Ab hJ
           have Cs : ρ (.tmp 11) = .int .i64 x := hJ.base (11, .int .i64 x) (by simp)
           refine aa (v := .int .i64 x) (w' := X) ?_ (hJ.put Ak.out rfl (by rw [an (by decide) (by decide) (by decide)]; exact hJ.wd))
           clear hd Ab hJ hL
           go_simp
         · intro ρ X L hc hf hL hd Ab hJ
           have k7 : ρ (.tmp 7) = ab q := hJ.base (7, ab q) (by simp)
           refine aa (v := .pointer (some ⟨q, 0, none⟩)) (w' := X) ?_ (hJ.put Ak.out rfl (by rw [an (by decide) (by decide) (by decide)]; exact hJ.wd))
           clear hd Ab hJ hL
           go_simp
         · intro ρ X L hc hf hL hd Ab hJ
           have CY : ρ (.tmp 58) = .pointer (some ⟨q, 0, none⟩) := hJ.vals 3 58 (.pointer (some ⟨q, 0, none⟩)) rfl (hd ⟨3, .data⟩ (by simp) rfl)
           have Ai : L 12 = false := ah (by kernel_rfl) Ab (k := 4) (by simp) hL
           have hx := LH.out X (aZ hJ.wd Ai)
           clear Ai
           refine aa (v := sl us n) (w' := X) ?_ (hJ.put Ak.out rfl (by rw [an (by decide) (by decide) (by decide)]; exact hJ.wd))
           clear hd Ab hJ hL
           go_simp
         · intro ρ X L hc hf hL hd Ab hJ
           have Cs : ρ (.tmp 11) = .int .i64 x := hJ.base (11, .int .i64 x) (by simp)
           refine aa (v := .int .i64 x) (w' := X) ?_ (hJ.put Ak.out rfl (by rw [an (by decide) (by decide) (by decide)]; exact hJ.wd))
           clear hd Ab hJ hL
           go_simp
         · intro ρ X L hc hf hL hd Ab hJ
           have Dm : ρ (.tmp 59) = sl us n := hJ.vals 4 59 (sl us n) rfl (hd ⟨4, .data⟩ (by simp) rfl)
           have CO : ρ (.tmp 60) = .int .i64 x := hJ.vals 5 60 (.int .i64 x) rfl (hd ⟨5, .data⟩ (by simp) rfl)
           refine aa (v := .pointer (some ⟨us, x, none⟩)) (w' := X) ?_ (hJ.put Ak.out rfl (by rw [an (by decide) (by decide) (by decide)]; exact hJ.wd))
           clear hd Ab hJ hL
           go_simp
         · intro ρ X L hc hf hL hd Ab hJ
           have Dg : ρ (.tmp 61) = .pointer (some ⟨us, x, none⟩) := hJ.vals 6 61 (.pointer (some ⟨us, x, none⟩)) rfl (hd ⟨6, .data⟩ (by simp) rfl)
           have Ai : L 12 = false := ah (by kernel_rfl) Ab (k := 7) (by simp) hL
           have hx := LR.out X (aZ hJ.wd Ai)
           clear Ai
           refine aa (v := .slice An l0.length Am) (w' := X) ?_ (hJ.put Ak.out rfl (by rw [an (by decide) (by decide) (by decide)]; exact hJ.wd))
           clear hd Ab hJ hL
           go_simp
         · intro ρ X L hc hf hL hd Ab hJ
           have k8 : ρ (.tmp 8) = .int .i64 k := hJ.base (8, .int .i64 k) (by simp)
           refine aa (v := .int .i64 k) (w' := X) ?_ (hJ.put Ak.out rfl (by rw [an (by decide) (by decide) (by decide)]; exact hJ.wd))
           clear hd Ab hJ hL
           go_simp
         · intro ρ X L hc hf hL hd Ab hJ
           have Dc : ρ (.tmp 63) = .int .i64 k := hJ.vals 8 63 (.int .i64 k) rfl (hd ⟨8, .data⟩ (by simp) rfl)
           have AD : L 10 = false := by cases e : L 10 with | false => rfl | true => (have := Ab 10 _ rfl e ⟨9, .data⟩ (by simp) rfl; rw [show (⟨9, .data⟩ : Edge).on = 9 from rfl] at this; rw [hL] at this; cases this)
           have Ai : L 12 = false := ah (by kernel_rfl) Ab (k := 9) (by simp) hL
           have hX := hJ.wd.trans (jm hL AD Ai)
           refine aa (v := .slice (some ⟨wd.heap.size, 0, none⟩) 1 1) (w' := wd.alloc (.cells #[.int .i64 k] 3)) ?_ (hJ.put Ak.out rfl ((em aG (by rw [aj (by decide)]; exact AD) (by rw [aj (by decide)]; exact Ai)).symm))
           subst hX
           clear hd Ab hJ hL AD Ai
           go_simp
         · intro ρ X L hc hf hL hd Ab hJ
           have Ct : ρ (.tmp 62) = .slice An l0.length Am := hJ.vals 7 62 (.slice An l0.length Am) rfl (hd ⟨7, .data⟩ (by simp) rfl)
           have CH : ρ (.tmp 64) = .slice (some ⟨wd.heap.size, 0, none⟩) 1 1 := hJ.vals 9 64 (.slice (some ⟨wd.heap.size, 0, none⟩) 1 1) rfl (hd ⟨9, .data⟩ (by simp) rfl)
           have Cy : L 9 = true := hd ⟨9, .data⟩ (by simp) rfl
           have Ai : L 12 = false := ah (by kernel_rfl) Ab (k := 10) (by simp) hL
           have hX := hJ.wd.trans (em Cy hL Ai)
           refine eD _ _ 26 rfl Ct CH (u := .slice (some ⟨Aq, 0, none⟩) (l0.length + 1) Al) (w' := w2) (by rw [hX]; exact BL.out) (hJ.put Ak.out rfl ((d9 aG (by rw [aj (by decide)]; exact Ai)).symm))
         · intro ρ X L hc hf hL hd Ab hJ
           have De : ρ (.tmp 56) = sl us n := hJ.vals 1 56 (sl us n) rfl (hd ⟨1, .data⟩ (by simp) rfl)
           have CZ : ρ (.tmp 57) = .int .i64 x := hJ.vals 2 57 (.int .i64 x) rfl (hd ⟨2, .data⟩ (by simp) rfl)
           refine aa (v := .pointer (some ⟨us, x, none⟩)) (w' := X) ?_ (hJ.put Ak.out rfl (by rw [an (by decide) (by decide) (by decide)]; exact hJ.wd))
           clear hd Ab hJ hL
           go_simp
         · intro ρ X L hc hf hL hd Ab hJ
           have CM : ρ (.tmp 66) = .pointer (some ⟨us, x, none⟩) := hJ.vals 11 66 (.pointer (some ⟨us, x, none⟩)) rfl (hd ⟨11, .data⟩ (by simp) rfl)
           have Db : ρ (.tmp 65) = .slice (some ⟨Aq, 0, none⟩) (l0.length + 1) Al := hJ.vals 10 65 (.slice (some ⟨Aq, 0, none⟩) (l0.length + 1) Al) rfl (hd ⟨10, .data⟩ (by simp) rfl)
           have AD : L 10 = true := hd ⟨10, .data⟩ (by simp) rfl
           have hX := hJ.wd.trans (d9 AD hL)
           refine bN (w' := w3) ?_ (hJ.last rfl ((ee aG).symm))
           subst hX
           clear hd Ab hJ hL AD
           rw [← BM.out]
           go_simp
         · intro c a' w' _ hE
           exact hE.elim
         · rintro ⟨Ad, df⟩ w' Au AN ⟨L, hL, hJ⟩ Ay
           simp only at AN Au
           subst AN
           have Cx : w3 = w' := (hJ.wd.trans (ee (hL 12 (by decide)))).symm
           subst Cx
           have Az := dg 55 66 (by kernel_rfl) Au Ay
           simp only [zr, Nat.reduceLT, Nat.reduceAdd, true_or, or_true, or_self, if_true, if_false] at Az
           rw [Az]
           clear Az hJ hL Ay Au Ak BL BM LH LQ LR q1 q2 Bl
           generalize Ad.getD 55 undef = x55
           generalize Ad.getD 56 undef = x56
           generalize Ad.getD 57 undef = x57
           generalize Ad.getD 58 undef = x58
           generalize Ad.getD 59 undef = x59
           generalize Ad.getD 60 undef = x60
           generalize Ad.getD 61 undef = x61
           generalize Ad.getD 62 undef = x62
           generalize Ad.getD 63 undef = x63
           generalize Ad.getD 64 undef = x64
           generalize Ad.getD 65 undef = x65
           generalize Ad.getD 66 undef = x66
           have Bd := hide (HG.out.add HRr.out Cr.out HXx.out Bj Bv)
           go_wp2_with fail
           go_roundw
           case rel => exact ⟨j + 1, _, _, by omega, by go_num, Bd, HN0a, AG, AE⟩
           case measure => simp [intOf]; omega
       · have Bd := hide (HG.out.next HRr.out Cb.out (by omega))
         have q0 := HQ.out.get (i := 0) rfl
         have q1 := HQ.out.get (i := 1) rfl
         have q2 := HQ.out.get (i := 2) rfl
         have CL := hide (eF (w := wr3) (k := r.kind) (h := (hm : Int)) (v := .slice bd r.body.length bp))
         cases htk : decide (r.kind = 3) with
         | true =>
          have Ar : Hid (kT r = false) := hide (by unfold kT; rw [htk]; rfl)
          rw [htk] at CL
          clear htk
          have Ao : Hid (opK T kT (k + 1) = opK T kT k) := hide (by rw [jc, AC.out, if_neg (by rw [Ar.out]; decide)])
          go_wp2_with (go_at_call 176; refine CL.out.mono ?_; rintro _ w5 ⟨rfl, hb⟩; have Ag := hide hb; clear hb)
          go_roundw
          case rel => exact ⟨k + 1, _, _, by have := HL.out; omega, by go_num, Bd, hide (by rw [Bz.out, Ao.out]; exact HN.out.go Ag.out), hide (HBq.out.trans (Ag.out.mono HBq.out.size))⟩
          case measure => have := HL.out; simp [intOf]; omega
         | false =>
          have Ar : Hid (kT r = true) := hide (by unfold kT; rw [htk]; rfl)
          rw [htk] at CL
          clear htk
          have Ao : Hid (opK T kT (k + 1) = ap (opK T kT k) hm (aC (opK T kT k hm))) := hide (by rw [jc, AC.out, if_pos Ar.out, Bq.out])
          go_upto_region 13 with (go_at_call 176; refine CL.out.mono ?_; rintro _ w5 ⟨rfl, hb⟩; have Ag := hide hb; clear hb)
          have AF := hide (HN.out.go Ag.out)
          have BT := hide (HQ.out.keep (Ag.out.block _ HQ.out.lt))
          have BN := hide (HBq.out.trans (Ag.out.mono HBq.out.size))
          clear HN HQ HBq Ag q0 q1 q2 CL
          have s3 := AF.out.bx.get (i := 3) rfl
          have q1 := BT.out.get (i := 1) rfl
          have co := AF.out.fo.get (aY AU)
          have zo := AF.out.fo.frz hm
          obtain ⟨v1, BD⟩ : ∃ v1, IntKind.i64.wrap (opK T kT k hm + 1) = v1 := ⟨_, rfl⟩
          have HV : Hid (aC (opK T kT k hm) = v1) := hide BD
          have Cv := hide (AF.out.setO AU v1)
          have CI := hide (BN.out.setCell (p := ⟨op, hm, none⟩) AF.out.lo.2.2.2 (.int .i64 v1))
          generalize opK T kT k hm = xo at co BD
          clear AF BT BN
          go_wp2_with fail
          go_roundw
          case rel => exact ⟨k + 1, _, _, by have := HL.out; omega, by go_num, Bd, hide (by rw [Bz.out, Ao.out, HV.out]; exact Cv.out), CI⟩
          case measure => have := HL.out; simp [intOf]; omega
    · have AM : k = T.rules.length := by omega
      have Aj : Hid (Nw W.heap.size q us ms rr op n T.rules.length (d8 T kA T.rules.length) (cU T kT (opK T kT T.rules.length) 0) H vs wr) := hide (by have := HN.out; rw [AM] at this; exact this)
      have Cz : Hid (Gu T kA n T.rules.length 0 H) := hide (by have := HG.out; rw [AM] at this; exact this)
      have Aw := hide HBr.out
      clear HN HG HBr AM
      have c2 := (Av.out.keep (Aw.out.block _ Av.out.lt)).get (i := 2) rfl
      go_wp2_with fail
      clear c2
      go_loopw [83] (fun x wr => ∃ k : Nat, k ≤ T.rules.length ∧ x = .int .i64 k ∧ Hid (Nw W.heap.size q us ms rr op n T.rules.length (d8 T kA T.rules.length) (cU T kT (opK T kT T.rules.length) k) H vs wr) ∧ Hid (Below W.heap.size W wr)) (fun x _ => T.rules.length - (intOf x).toNat)
      case atStart => exact ⟨0, by omega, rfl, Aj, Aw⟩
      case round =>
       clear Aj Aw
       rename World => wr5
       obtain ⟨k, hk, rfl, HN, HBr⟩ := hrel
       by_cases AA : k < T.rules.length
       · obtain ⟨r, hr⟩ := am AA
         obtain ⟨h0, h1⟩ := HP.out.head r (List.mem_of_getElem? hr)
         obtain ⟨hm, At⟩ := Int.eq_ofNat_of_zero_le h0
         have AU : hm < n := by omega
         have AT : ag T k = (hm : Int) := by unfold ag; rw [Int.toNat_natCast, hr]; exact At
         have AL : aA T kT k = kT r := by unfold aA; rw [Int.toNat_natCast, hr]; rfl
         have AQ : aq T k = r.body := by unfold aq; rw [Int.toNat_natCast, hr]; rfl
         have hR := TR.keep HBr.out.block Bu.out
         obtain ⟨gr, go, bd, bp, rfl, Bf, x0, x1, x2, -, BY, AI⟩ := dY hR.rules hr
         rw [At] at x1
         have Ax := ac wr5 (.cells #[.int .i64 r.kind, .int .i64 hm, .slice bd r.body.length bp] 114)
         have HQ : Hid (Fx wr5.heap.size 114 [.int .i64 r.kind, .int .i64 hm, .slice bd r.body.length bp] (wr5.alloc (.cells #[.int .i64 r.kind, .int .i64 hm, .slice bd r.body.length bp] 114))) := hide (heap_alloc_new wr5 _)
         have HNq := hide (HN.out.go Ax)
         have HBq := hide (HBr.out.trans (Ax.mono HBr.out.size))
         have Bq := hide AT
         have AC := hide AL
         have Bc := hide AQ
         have HL := hide AA
         clear hr h0 h1 At hR Ax AI HN HBr Bf AT AL AQ
         go_upto_region 18 with fail
         clear x0 x1 x2
         generalize wr5.alloc (.cells #[.int .i64 r.kind, .int .i64 hm, .slice bd r.body.length bp] 114) = wq at *
         obtain ⟨qr, AR⟩ : ∃ qr, wr5.heap.size = qr := ⟨_, rfl⟩
         rw [AR] at HQ ⊢
         clear AR
         have q0 := HQ.out.get (i := 0) rfl
         have q1 := HQ.out.get (i := 1) rfl
         have q2 := HQ.out.get (i := 2) rfl
         have CL := hide (eF (w := wq) (k := r.kind) (h := (hm : Int)) (v := .slice bd r.body.length bp))
         cases htk : decide (r.kind = 3) with
         | true =>
          have Ar : Hid (kT r = false) := hide (by unfold kT; rw [htk]; rfl)
          have Ao : Hid (cU T kT (opK T kT T.rules.length) (k + 1) = cU T kT (opK T kT T.rules.length) k) := hide (by rw [fQ, AC.out, Ar.out]; rfl)
          rw [htk] at CL
          clear htk
          go_wp2_with (go_at_call 176; refine CL.out.mono ?_; rintro _ w5 ⟨rfl, hb⟩; have Ag := hide hb; clear hb)
          go_roundw
          case rel => exact ⟨k + 1, by have := HL.out; omega, by go_num, hide (by rw [Ao.out]; exact HNq.out.go Ag.out), hide (HBq.out.trans (Ag.out.mono HBq.out.size))⟩
          case measure => have := HL.out; simp [intOf]; omega
         | false =>
          have Ar : Hid (kT r = true) := hide (by unfold kT; rw [htk]; rfl)
          rw [htk] at CL
          clear htk
          by_cases he : r.body.length = 0
          · have AV : r.body.isEmpty = true := by rw [List.isEmpty_iff]; exact List.eq_nil_of_length_eq_zero he
            have Ao : Hid (cU T kT (opK T kT T.rules.length) (k + 1) = ap (cU T kT (opK T kT T.rules.length) k) hm 0) := hide (by rw [fQ, AC.out, Ar.out, Bc.out, AV, Bq.out]; rfl)
            have BP : ((r.body.length : Int) == 0) = true := by simpa using he
            have AZ : Hid (∀ X, Below wq.heap.size wq X → X.cell? ⟨qr, 1, none⟩ = some (.int .i64 hm) ∧ X.cell? ⟨qr, 2, none⟩ = some (.slice bd r.body.length bp) ∧ X.cell? ⟨q, 3, none⟩ = some (sl op n) ∧ X.cell? ⟨op, hm, none⟩ = some (.int .i64 (cU T kT (opK T kT T.rules.length) k hm)) ∧ X.frozen? ⟨op, hm, none⟩ = false) := hide fun X hX => by
             have a := HQ.out.keep (hX.block _ HQ.out.lt)
             have b := HNq.out.go hX
             exact ⟨a.get (i := 1) rfl, a.get (i := 2) rfl, b.bx.get (i := 3) rfl, b.fo.get (aY AU), b.fo.frz hm⟩
            clear AV
            rw [he] at *
            go_wp2_with (go_at_call 176; refine CL.out.mono ?_; rintro _ w5 ⟨rfl, hb⟩; have Ag := hide hb; obtain ⟨k1, k2, k3, k4, k5⟩ := AZ.out w5 hb; clear hb)
            go_roundw
            case rel => exact ⟨k + 1, by have := HL.out; omega, by go_num, hide (by rw [Ao.out]; exact (HNq.out.go Ag.out).setO AU 0), hide ((HBq.out.trans (Ag.out.mono HBq.out.size)).setCell (p := ⟨op, hm, none⟩) HNq.out.lo.2.2.2 (.int .i64 0))⟩
            case measure => have := HL.out; simp [intOf]; omega
          · have AV : r.body.isEmpty = false := by cases hb : r.body with
             | nil => rw [hb] at he; simp at he
             | cons _ _ => rfl
            have Ao : Hid (cU T kT (opK T kT T.rules.length) (k + 1) = cU T kT (opK T kT T.rules.length) k) := hide (by rw [fQ, AC.out, Ar.out, Bc.out, AV]; rfl)
            have BP : ((r.body.length : Int) == 0) = false := by simpa using he
            have Co : (r.body.length == 0) = false := by simpa using he
            have AZ : Hid (∀ X, Below wq.heap.size wq X → X.cell? ⟨qr, 2, none⟩ = some (.slice bd r.body.length bp)) := hide fun X hX => (HQ.out.keep (hX.block _ HQ.out.lt)).get (i := 2) rfl
            obtain ⟨bl, Cf⟩ : ∃ bl, r.body.length = bl := ⟨_, rfl⟩
            rw [Cf] at AZ he BP Co CL q2 BY
            clear AV
            go_wp2_with (go_at_call 176; refine CL.out.mono ?_; rintro _ w5 ⟨rfl, hb⟩; have Ag := hide hb; have k2 := AZ.out w5 hb; clear hb)
            go_roundw
            case rel => exact ⟨k + 1, by have := HL.out; omega, by go_num, hide (by rw [Ao.out]; exact HNq.out.go Ag.out), hide (HBq.out.trans (Ag.out.mono HBq.out.size))⟩
            case measure => have := HL.out; simp [intOf]; omega
       · have AM : k = T.rules.length := by omega
         have Aj : Hid (Nw W.heap.size q us ms rr op n T.rules.length (d8 T kA T.rules.length) (cU T kT (opK T kT T.rules.length) T.rules.length) H vs wr5) := hide (by have := HN.out; rw [AM] at this; exact this)
         clear HN
         have c0 := Aj.out.bx.get (i := 0) rfl
         have c1 := Aj.out.bx.get (i := 1) rfl
         have c2 := Aj.out.bx.get (i := 2) rfl
         have c3 := Aj.out.bx.get (i := 3) rfl
         have HX2r := hide (AS.out.keep (HBr.out.block _ AS.out.lt))
         have CN : bq + 1 < W.heap.size := AS.out.lt
         go_upto_region 21 with fail
         refine wp_region_lit ?_
         refine wpList_plain rfl fun K hK => ?_
         go_simp
         refine hK _ _ ?_
         clear hK
         refine wpList_plain rfl fun K hK => ?_
         refine wp_store_row 178 _ _ rfl (bq + 1) _ rfl rfl _ _ HX2r.out (by kernel_rfl) rfl (by simp [sl, Value.oneCell']) ?_
         refine hK _ _ ?_
         clear hK
         have AH := hide (setRow_heap wr5 (bq + 1) _ #[sl us n, sl ms T.rules.length, sl rr T.rules.length, sl op n] _ _ HX2r.out)
         have CF := hide (Aj.out.far (w' := wr5.setRow (bq + 1) #[sl us n, sl ms T.rules.length, sl rr T.rules.length, sl op n]) (fun g hg _ => setRow_other _ _ _ _ (by omega)) HB.out.size)
         have CD := hide (jd (b := bq + 1) (HB.out.trans (HBr.out.mono HB.out.size)) (by rw [Cp.out]; omega) #[sl us n, sl ms T.rules.length, sl rr T.rules.length, sl op n])
         generalize wr5.setRow (bq + 1) #[sl us n, sl ms T.rules.length, sl rr T.rules.length, sl op n] = Y at *
         clear Aj HBr c0 c1 c2 c3 HX2r AS
         go_wp2_with fail
         refine bodyPost_ret (v := .agg #[sl us n, sl ms T.rules.length, sl rr T.rules.length, sl op n]) (tK rfl AH.out) rfl ?_
         exact ⟨q, us, ms, rr, op, vs, H, rfl, CF.out, fun z hz => by have := Cz.out.u z hz; simpa using this, CD.out⟩
end Go.Proofs.YtmlhcncagdfjfaaGreat.Fa
