import Derived.Test.YthifoamnmhlghaaGreatNwp
set_option maxRecDepth 100000
set_option maxHeartbeats 12800000
namespace Go.Proofs.YthifoamnmhlghaaGreat.Fa
open Go.RowKit Rg
theorem nH {w : World} {T : Th} {F : List Int} {n : Nat} {fa ra ba : Option Addr} {fc rc bc : Nat} (h : TA w.heap.size w T fa fc ra rc ba bc) (hp : Pf T F n) :
    Calls Tryz.prog 28 #[tv T fa fc ra rc ba bc, .func (.func 30) #[] #[], .func (.func 31) #[] #[]] w fun o w' => ∃ q us ms rr op vs H, o = .returned (.agg (pD us ms rr op n T.rules.length).toArray) ∧ Nw w.heap.size q us ms rr op n T.rules.length (dz T kA T.rules.length) (cE T kT (opK T kT T.rules.length) T.rules.length) H vs w' ∧ (∀ z : Nat, z < n → (H 0).getD z [] = dm T kA T.rules.length z) ∧ Below w.heap.size w w' := by
 obtain ⟨iL, Cl, CD, Ck, Cx⟩ := info_parts kM
 obtain ⟨iB, Cu, CE, Cn, Cj⟩ := info_parts jy
 obtain ⟨iI, Br, Bq, Bf, Bu⟩ := info_parts gq
 have De := hp.n4
 have CM : T.rules.length ≤ 4096 := hp.ok.rl
 have BD : ∀ W, (Instr.makeSlice 22 (.int .i64 T.lits) (.int .i64 T.lits)).run Tryz.prog W = .ok (sl W.heap.size n) (W.alloc (.cells (Array.replicate n (.slice none 0 0)) 26)) := fun W => by rw [hp.ln]; exact aL (P := Tryz.prog) Tryz.underlying22 Cl CD Ck rfl n (by rw [Cx]; omega) (by unfold maxLen; omega) W
 have BE : ∀ W, (Instr.makeSlice 26 (.int .i64 T.lits) (.int .i64 T.lits)).run Tryz.prog W = .ok (sl W.heap.size n) (W.alloc (.cells (Array.replicate n (.int .i64 0)) 3)) := fun W => by rw [hp.ln]; exact aL (P := Tryz.prog) Tryz.underlying26 Br Bq Bf rfl n (by rw [Bu]; omega) (by unfold maxLen; omega) W
 have BQ : ∀ W, (Instr.makeSlice 26 (.int .i64 T.rules.length) (.int .i64 T.rules.length)).run Tryz.prog W = .ok (sl W.heap.size T.rules.length) (W.alloc (.cells (Array.replicate T.rules.length (.int .i64 0)) 3)) := fun W => aL (P := Tryz.prog) Tryz.underlying26 Br Bq Bf rfl T.rules.length (by rw [Bu]; omega) (by unfold maxLen; omega) W
 have BI : ∀ W, (Instr.makeSlice 44 (.int .i64 T.rules.length) (.int .i64 T.rules.length)).run Tryz.prog W = .ok (sl W.heap.size T.rules.length) (W.alloc (.cells (Array.replicate T.rules.length (.bool false)) 4)) := fun W => aL (P := Tryz.prog) Tryz.underlying44 Cu CE Cn rfl T.rules.length (by rw [Cj]; omega) (by unfold maxLen; omega) W
 have BB := aa w (.cells #[.int .i64 T.lits, .slice fa T.foes.length fc, .slice ra T.rules.length rc, .slice ba T.beats.length bc] 25)
 have Bt := aa (w.alloc (.cells #[.int .i64 T.lits, .slice fa T.foes.length fc, .slice ra T.rules.length rc, .slice ba T.beats.length bc] 25)) (.cells #[.slice none 0 0, .slice none 0 0, .slice none 0 0, .slice none 0 0] 48)
 have hB := BB.trans (Bt.mono BB.size)
 have BK : Fx w.heap.size 25 [.int .i64 T.lits, .slice fa T.foes.length fc, .slice ra T.rules.length rc, .slice ba T.beats.length bc] ((w.alloc (.cells #[.int .i64 T.lits, .slice fa T.foes.length fc, .slice ra T.rules.length rc, .slice ba T.beats.length bc] 25)).alloc (.cells #[.slice none 0 0, .slice none 0 0, .slice none 0 0, .slice none 0 0] 48)) := (Bt.block _ (by simp)).trans (heap_alloc_new w _)
 have Cb : Fx (w.heap.size + 1) 48 [.slice none 0 0, .slice none 0 0, .slice none 0 0, .slice none 0 0] ((w.alloc (.cells #[.int .i64 T.lits, .slice fa T.foes.length fc, .slice ra T.rules.length rc, .slice ba T.beats.length bc] 25)).alloc (.cells #[.slice none 0 0, .slice none 0 0, .slice none 0 0, .slice none 0 0] 48)) := by
  have := heap_alloc_new (w.alloc (.cells #[.int .i64 T.lits, .slice fa T.foes.length fc, .slice ra T.rules.length rc, .slice ba T.beats.length bc] 25)) (.cells #[.slice none 0 0, .slice none 0 0, .slice none 0 0, .slice none 0 0] 48)
  simpa [Fx] using this
 have Bi := hide (TR.go hB h)
 have HP := hide hp
 have HB := hide hB
 have At := hide BK
 have AS := hide Cb
 clear h hp hB BB Bt
 go_enter Tryz.func28, Tryz.ntmps28
 go_upto_region 1 with fail
 clear BK Cb
 generalize (w.alloc (.cells #[.int .i64 T.lits, .slice fa T.foes.length fc, .slice ra T.rules.length rc, .slice ba T.beats.length bc] 25)).alloc (.cells #[.slice none 0 0, .slice none 0 0, .slice none 0 0, .slice none 0 0] 48) = W at *
 obtain ⟨bq, Bg⟩ : ∃ bq, w.heap.size = bq := ⟨_, rfl⟩
 have Cq := hide Bg
 rw [Bg] at At AS ⊢
 clear Bg
 have HDr := hide ((Below.refl W.heap.size W).drew)
 obtain ⟨W0, Bj⟩ : ∃ W0, W.drew = W0 := ⟨_, rfl⟩
 have HX1d := hide (At.out.keep (HDr.out.block _ At.out.lt))
 have Ae : Hid (jl [some 14, some 15, some 16, some 17, some 18, some 19, some 20, some 21, some 22, some 23, some 24, some 25, some 26, some 27, some 28, some 7, none] [(3, ae bq)] = true) := hide rfl
 rw [Bj] at HX1d HDr
 have Af : Hid (∀ X, Below W0.heap.size W0 X → X.cell? ⟨bq, 0, none⟩ = some (.int .i64 T.lits) ∧ X.cell? ⟨bq, 2, none⟩ = some (.slice ra T.rules.length rc)) := hide fun X hX => by
  have hf := HX1d.out.keep (hX.block _ HX1d.out.lt)
  exact ⟨hf.get (i := 0) rfl, hf.get (i := 2) rfl⟩
 refine dQ jX (Jl 16 [some 14, some 15, some 16, some 17, some 18, some 19, some 20, some 21, some 22, some 23, some 24, some 25, some 26, some 27, some 28, some 7, none] [(3, ae bq)] (qf T.rules.length ra rc T bq n W0.heap.size) (oN T.rules.length n W0) W0) (by kernel_rfl) (by kernel_rfl) ?_ (ew ⟨?_, ?_, ?_, ?_, ?_, ?_, ?_, ?_, ?_, ?_, ?_, ?_, ?_, ?_, ?_, ?_, ?_, trivial⟩) ?_ ?_
 · refine ⟨fun _ => ?_, fun e => by cases e⟩
   show Jg _ _ _ W0 _ _ W.drew
   rw [Bj]
   exact Jg.start.2 fun p hp => by simp at hp; subst hp; rfl
 · intro ρ X L hc hf hL hd Ab Ac
   have Aa : L 16 = false := an (by kernel_rfl) Ab (k := 0) (by simp) hL
   have hJ := Ac.1 Aa
   obtain ⟨c0, c2⟩ := Af.out X hJ.low
   have k3 : ρ (.tmp 3) = ae bq := hJ.base (3, ae bq) (by simp)
   refine ah (v := ae bq) (w' := X) ?_ ⟨fun _ => hJ.put Ae.out aT (i := 0) (d := 14) rfl (Below.refl _ _) (rfl), fun e => by rw [aq (by decide), Aa] at e; cases e⟩
   clear hd Ab hJ Ac hL Aa
   go_simp
 · intro ρ X L hc hf hL hd Ab Ac
   have Aa : L 16 = false := an (by kernel_rfl) Ab (k := 1) (by simp) hL
   have hJ := Ac.1 Aa
   obtain ⟨c0, c2⟩ := Af.out X hJ.low
   obtain ⟨_, _, _, e1⟩ := hJ.get (i := 0) (d := 14) rfl (hd ⟨0, .data⟩ (by simp) rfl)
   have Dc : ρ (.tmp 14) = ae bq := e1
   clear e1
   refine ah (v := .int .i64 T.lits) (w' := X) ?_ ⟨fun _ => hJ.put Ae.out aT (i := 1) (d := 15) rfl (Below.refl _ _) (rfl), fun e => by rw [aq (by decide), Aa] at e; cases e⟩
   clear hd Ab hJ Ac hL Aa
   go_simp
 · intro ρ X L hc hf hL hd Ab Ac
   have Aa : L 16 = false := an (by kernel_rfl) Ab (k := 2) (by simp) hL
   have hJ := Ac.1 Aa
   obtain ⟨c0, c2⟩ := Af.out X hJ.low
   obtain ⟨_, _, _, e1⟩ := hJ.get (i := 1) (d := 15) rfl (hd ⟨1, .data⟩ (by simp) rfl)
   have Dj : ρ (.tmp 15) = .int .i64 T.lits := e1
   have Bl := BD X
   clear e1
   refine ah (v := sl X.heap.size n) (w' := X.alloc (.cells (Array.replicate n (.slice none 0 0)) 26)) ?_ ⟨fun _ => hJ.put Ae.out aT (i := 2) (d := 16) rfl (aa X _) (⟨X.heap.size, rfl, by unfold Fx; rw [heap_alloc_new]; simp, Nat.le_refl _, by simp, hJ.low.size⟩), fun e => by rw [aq (by decide), Aa] at e; cases e⟩
   clear hd Ab hJ Ac hL Aa
   go_simp
 · intro ρ X L hc hf hL hd Ab Ac
   have Aa : L 16 = false := an (by kernel_rfl) Ab (k := 3) (by simp) hL
   have hJ := Ac.1 Aa
   obtain ⟨c0, c2⟩ := Af.out X hJ.low
   have k3 : ρ (.tmp 3) = ae bq := hJ.base (3, ae bq) (by simp)
   refine ah (v := .pointer (some ⟨bq, 2, none⟩)) (w' := X) ?_ ⟨fun _ => hJ.put Ae.out aT (i := 3) (d := 17) rfl (Below.refl _ _) (rfl), fun e => by rw [aq (by decide), Aa] at e; cases e⟩
   clear hd Ab hJ Ac hL Aa
   go_simp
 · intro ρ X L hc hf hL hd Ab Ac
   have Aa : L 16 = false := an (by kernel_rfl) Ab (k := 4) (by simp) hL
   have hJ := Ac.1 Aa
   obtain ⟨c0, c2⟩ := Af.out X hJ.low
   obtain ⟨_, _, _, e1⟩ := hJ.get (i := 3) (d := 17) rfl (hd ⟨3, .data⟩ (by simp) rfl)
   have CR : ρ (.tmp 17) = .pointer (some ⟨bq, 2, none⟩) := e1
   clear e1
   refine ah (v := .slice ra T.rules.length rc) (w' := X) ?_ ⟨fun _ => hJ.put Ae.out aT (i := 4) (d := 18) rfl (Below.refl _ _) (rfl), fun e => by rw [aq (by decide), Aa] at e; cases e⟩
   clear hd Ab hJ Ac hL Aa
   go_simp
 · intro ρ X L hc hf hL hd Ab Ac
   have Aa : L 16 = false := an (by kernel_rfl) Ab (k := 5) (by simp) hL
   have hJ := Ac.1 Aa
   obtain ⟨c0, c2⟩ := Af.out X hJ.low
   obtain ⟨_, _, _, e1⟩ := hJ.get (i := 4) (d := 18) rfl (hd ⟨4, .data⟩ (by simp) rfl)
   have CQ : ρ (.tmp 18) = .slice ra T.rules.length rc := e1
   clear e1
   refine ah (v := .int .i64 T.rules.length) (w' := X) ?_ ⟨fun _ => hJ.put Ae.out aT (i := 5) (d := 19) rfl (Below.refl _ _) (rfl), fun e => by rw [aq (by decide), Aa] at e; cases e⟩
   clear hd Ab hJ Ac hL Aa
   go_simp
 · intro ρ X L hc hf hL hd Ab Ac
   have Aa : L 16 = false := an (by kernel_rfl) Ab (k := 6) (by simp) hL
   have hJ := Ac.1 Aa
   obtain ⟨c0, c2⟩ := Af.out X hJ.low
   obtain ⟨_, _, _, e1⟩ := hJ.get (i := 5) (d := 19) rfl (hd ⟨5, .data⟩ (by simp) rfl)
   have Dk : ρ (.tmp 19) = .int .i64 T.rules.length := e1
   have Bl := BQ X
   clear e1
   refine ah (v := sl X.heap.size T.rules.length) (w' := X.alloc (.cells (Array.replicate T.rules.length (.int .i64 0)) 3)) ?_ ⟨fun _ => hJ.put Ae.out aT (i := 6) (d := 20) rfl (aa X _) (⟨X.heap.size, rfl, by unfold Fx; rw [heap_alloc_new, gQ], Nat.le_refl _, by simp, hJ.low.size⟩), fun e => by rw [aq (by decide), Aa] at e; cases e⟩
   clear hd Ab hJ Ac hL Aa
   go_simp
 · intro ρ X L hc hf hL hd Ab Ac
   have Aa : L 16 = false := an (by kernel_rfl) Ab (k := 7) (by simp) hL
   have hJ := Ac.1 Aa
   obtain ⟨c0, c2⟩ := Af.out X hJ.low
   have k3 : ρ (.tmp 3) = ae bq := hJ.base (3, ae bq) (by simp)
   refine ah (v := .pointer (some ⟨bq, 2, none⟩)) (w' := X) ?_ ⟨fun _ => hJ.put Ae.out aT (i := 7) (d := 21) rfl (Below.refl _ _) (rfl), fun e => by rw [aq (by decide), Aa] at e; cases e⟩
   clear hd Ab hJ Ac hL Aa
   go_simp
 · intro ρ X L hc hf hL hd Ab Ac
   have Aa : L 16 = false := an (by kernel_rfl) Ab (k := 8) (by simp) hL
   have hJ := Ac.1 Aa
   obtain ⟨c0, c2⟩ := Af.out X hJ.low
   obtain ⟨_, _, _, e1⟩ := hJ.get (i := 7) (d := 21) rfl (hd ⟨7, .data⟩ (by simp) rfl)
   have Dn : ρ (.tmp 21) = .pointer (some ⟨bq, 2, none⟩) := e1
   clear e1
   refine ah (v := .slice ra T.rules.length rc) (w' := X) ?_ ⟨fun _ => hJ.put Ae.out aT (i := 8) (d := 22) rfl (Below.refl _ _) (rfl), fun e => by rw [aq (by decide), Aa] at e; cases e⟩
   clear hd Ab hJ Ac hL Aa
   go_simp
 · intro ρ X L hc hf hL hd Ab Ac
   have Aa : L 16 = false := an (by kernel_rfl) Ab (k := 9) (by simp) hL
   have hJ := Ac.1 Aa
   obtain ⟨c0, c2⟩ := Af.out X hJ.low
   obtain ⟨_, _, _, e1⟩ := hJ.get (i := 8) (d := 22) rfl (hd ⟨8, .data⟩ (by simp) rfl)
   have CT : ρ (.tmp 22) = .slice ra T.rules.length rc := e1
   clear e1
   refine ah (v := .int .i64 T.rules.length) (w' := X) ?_ ⟨fun _ => hJ.put Ae.out aT (i := 9) (d := 23) rfl (Below.refl _ _) (rfl), fun e => by rw [aq (by decide), Aa] at e; cases e⟩
   clear hd Ab hJ Ac hL Aa
   go_simp
 · intro ρ X L hc hf hL hd Ab Ac
   have Aa : L 16 = false := an (by kernel_rfl) Ab (k := 10) (by simp) hL
   have hJ := Ac.1 Aa
   obtain ⟨c0, c2⟩ := Af.out X hJ.low
   obtain ⟨_, _, _, e1⟩ := hJ.get (i := 9) (d := 23) rfl (hd ⟨9, .data⟩ (by simp) rfl)
   have Dl : ρ (.tmp 23) = .int .i64 T.rules.length := e1
   have Bl := BI X
   clear e1
   refine ah (v := sl X.heap.size T.rules.length) (w' := X.alloc (.cells (Array.replicate T.rules.length (.bool false)) 4)) ?_ ⟨fun _ => hJ.put Ae.out aT (i := 10) (d := 24) rfl (aa X _) (⟨X.heap.size, rfl, by unfold Fx cM; rw [heap_alloc_new]; simp [List.map_const'], Nat.le_refl _, by simp, hJ.low.size⟩), fun e => by rw [aq (by decide), Aa] at e; cases e⟩
   clear hd Ab hJ Ac hL Aa
   go_simp
 · intro ρ X L hc hf hL hd Ab Ac
   have Aa : L 16 = false := an (by kernel_rfl) Ab (k := 11) (by simp) hL
   have hJ := Ac.1 Aa
   obtain ⟨c0, c2⟩ := Af.out X hJ.low
   have k3 : ρ (.tmp 3) = ae bq := hJ.base (3, ae bq) (by simp)
   refine ah (v := ae bq) (w' := X) ?_ ⟨fun _ => hJ.put Ae.out aT (i := 11) (d := 25) rfl (Below.refl _ _) (rfl), fun e => by rw [aq (by decide), Aa] at e; cases e⟩
   clear hd Ab hJ Ac hL Aa
   go_simp
 · intro ρ X L hc hf hL hd Ab Ac
   have Aa : L 16 = false := an (by kernel_rfl) Ab (k := 12) (by simp) hL
   have hJ := Ac.1 Aa
   obtain ⟨c0, c2⟩ := Af.out X hJ.low
   obtain ⟨_, _, _, e1⟩ := hJ.get (i := 11) (d := 25) rfl (hd ⟨11, .data⟩ (by simp) rfl)
   have Db : ρ (.tmp 25) = ae bq := e1
   clear e1
   refine ah (v := .int .i64 T.lits) (w' := X) ?_ ⟨fun _ => hJ.put Ae.out aT (i := 12) (d := 26) rfl (Below.refl _ _) (rfl), fun e => by rw [aq (by decide), Aa] at e; cases e⟩
   clear hd Ab hJ Ac hL Aa
   go_simp
 · intro ρ X L hc hf hL hd Ab Ac
   have Aa : L 16 = false := an (by kernel_rfl) Ab (k := 13) (by simp) hL
   have hJ := Ac.1 Aa
   obtain ⟨c0, c2⟩ := Af.out X hJ.low
   obtain ⟨_, _, _, e1⟩ := hJ.get (i := 12) (d := 26) rfl (hd ⟨12, .data⟩ (by simp) rfl)
   have CN : ρ (.tmp 26) = .int .i64 T.lits := e1
   have Bl := BE X
   clear e1
   refine ah (v := sl X.heap.size n) (w' := X.alloc (.cells (Array.replicate n (.int .i64 0)) 3)) ?_ ⟨fun _ => hJ.put Ae.out aT (i := 13) (d := 27) rfl (aa X _) (⟨X.heap.size, rfl, by unfold Fx; rw [heap_alloc_new, gQ], Nat.le_refl _, by simp, hJ.low.size⟩), fun e => by rw [aq (by decide), Aa] at e; cases e⟩
   clear hd Ab hJ Ac hL Aa
   go_simp
 · intro ρ X L hc hf hL hd Ab Ac
   have Aa : L 16 = false := an (by kernel_rfl) Ab (k := 14) (by simp) hL
   have hJ := Ac.1 Aa
   obtain ⟨c0, c2⟩ := Af.out X hJ.low
   obtain ⟨lo, hi, AL, Bo⟩ := hJ.at_
   have l2 : L 2 = true := hd ⟨2, .data⟩ (by simp) rfl
   have l6 : L 6 = true := hd ⟨6, .data⟩ (by simp) rfl
   have Cg : L 10 = true := hd ⟨10, .data⟩ (by simp) rfl
   have BF : L 13 = true := hd ⟨13, .data⟩ (by simp) rfl
   obtain ⟨-, -, -, g0, e3, f3, a3, b3, n3⟩ := AL 2 16 rfl l2
   obtain ⟨-, -, -, g1, e6, f6, a6, b6, n6⟩ := AL 6 20 rfl l6
   obtain ⟨-, -, -, g2, e9, f9, a9, b9, n9⟩ := AL 10 24 rfl Cg
   obtain ⟨-, -, -, g3, BV, BT, Di, Da, CI⟩ := AL 13 27 rfl BF
   have d1 := Bo 6 13 20 27 rfl rfl (by decide) l6 BF
   have CU : ρ (.tmp 16) = sl g0 n := e3
   have Do : ρ (.tmp 20) = sl g1 T.rules.length := e6
   have Df : ρ (.tmp 24) = sl g2 T.rules.length := e9
   have Dq : ρ (.tmp 27) = sl g3 n := BV
   refine ah (v := .agg #[sl g0 n, sl g1 T.rules.length, sl g2 T.rules.length, sl g3 n]) (w' := X) ?_ ⟨fun _ => hJ.put Ae.out aT (i := 14) (d := 28) rfl (Below.refl _ _) (⟨g0, g1, g2, g3, rfl, f3, f6, f9, BT, ⟨n3, n6, n9, CI⟩, by omega⟩), fun e => by rw [aq (by decide), Aa] at e; cases e⟩
   clear hd Ab hJ Ac hL Aa AL Bo d1 e3 e6 e9 BV f3 f6 f9 BT
   go_simp
 · intro ρ X L hc hf hL hd Ab Ac
   have Aa : L 16 = false := an (by kernel_rfl) Ab (k := 15) (by simp) hL
   have hJ := Ac.1 Aa
   obtain ⟨c0, c2⟩ := Af.out X hJ.low
   refine ah (v := ae X.heap.size) (w' := X.alloc (.cells #[.slice none 0 0, .slice none 0 0, .slice none 0 0, .slice none 0 0] 48)) ?_ ⟨fun _ => hJ.put Ae.out aT (i := 15) (d := 7) rfl (aa X _) (⟨X.heap.size, [.slice none 0 0, .slice none 0 0, .slice none 0 0, .slice none 0 0], rfl, heap_alloc_new X _, rfl, hJ.low.size⟩), fun e => by rw [aq (by decide), Aa] at e; cases e⟩
   clear hd Ab hJ Ac hL Aa
   go_simp
 · intro ρ X L hc hf hL hd Ab Ac
   have hJ := Ac.1 hL
   obtain ⟨_, _, _, g0, g1, g2, g3, BN, f0, f1, f2, f3, ⟨m0, m1, m2, m3⟩, d1⟩ := hJ.get (i := 14) (d := 28) rfl (hd ⟨14, .data⟩ (by simp) rfl)
   obtain ⟨_, _, _, q, xs, e7, h0, Ch, hq⟩ := hJ.get (i := 15) (d := 7) rfl (hd ⟨15, .data⟩ (by simp) rfl)
   obtain ⟨t0, t1, t2, t3, rfl⟩ : ∃ t0 t1 t2 t3, xs = [t0, t1, t2, t3] := by
    match xs, Ch with
    | [t0, t1, t2, t3], _ => exact ⟨t0, t1, t2, t3, rfl⟩
   have Dp : ρ (.tmp 28) = .agg #[sl g0 n, sl g1 T.rules.length, sl g2 T.rules.length, sl g3 n] := BN
   have k7 : ρ (.tmp 7) = ae q := e7
   have y0 := h0.get (i := 0) (v := t0) rfl
   have z0 := h0.frz 0
   have h1 := h0.set 0 (sl g0 n)
   have y1 := h1.get (i := 1) (v := t1) rfl
   have z1 := h1.frz 1
   have h2 := h1.set 1 (sl g1 T.rules.length)
   have y2 := h2.get (i := 2) (v := t2) rfl
   have z2 := h2.frz 2
   have h3 := h2.set 2 (sl g2 T.rules.length)
   have y3 := h3.get (i := 3) (v := t3) rfl
   have z3 := h3.frz 3
   have h4 := h3.set 3 (sl g3 n)
   have kp : ∀ {g t : Nat} {xs : List Value}, Fx g t xs X → t ≠ 48 → Fx g t xs ((((X.setCell ⟨q, 0, none⟩ (sl g0 n)).setCell ⟨q, 1, none⟩ (sl g1 T.rules.length)).setCell ⟨q, 2, none⟩ (sl g2 T.rules.length)).setCell ⟨q, 3, none⟩ (sl g3 n)) := fun hx ht => by
    have Ci := am hx h0 ht
    exact hx.keep (by simp only [other_set Ci])
   have AH : Hid (oN T.rules.length n W0 (dO (fun s => ρ (.tmp s)) none undef) ((((X.setCell ⟨q, 0, none⟩ (sl g0 n)).setCell ⟨q, 1, none⟩ (sl g1 T.rules.length)).setCell ⟨q, 2, none⟩ (sl g2 T.rules.length)).setCell ⟨q, 3, none⟩ (sl g3 n))) := hide ⟨q, g0, g1, g2, g3, by rw [cY (by simp)]; exact k7, ⟨h4, kp f1 (by decide), kp f2 (by decide), kp f3 (by decide), m6 (kp f0 (by decide)) m0, ⟨hq, m1, m2, m3⟩, d1, fun i v hv => by rw [List.getElem?_replicate] at hv; split at hv <;> cases hv; exact ⟨fun e => (by cases e), fun e => (by cases e)⟩⟩, ((((hJ.low.setCell (p := ⟨q, 0, none⟩) hq _).setCell (p := ⟨q, 1, none⟩) hq _).setCell (p := ⟨q, 2, none⟩) hq _).setCell (p := ⟨q, 3, none⟩) hq _)⟩
   refine dH (w' := ((((X.setCell ⟨q, 0, none⟩ (sl g0 n)).setCell ⟨q, 1, none⟩ (sl g1 T.rules.length)).setCell ⟨q, 2, none⟩ (sl g2 T.rules.length)).setCell ⟨q, 3, none⟩ (sl g3 n))) ?_ ⟨fun e => (by rw [bK] at e; cases e), fun _ => AH.out⟩
   clear hd Ab hJ Ac hL kp AH f0 f1 f2 f3 h1 h2 h3 h4 h0 BN e7
   go_simp
 · intro c a' w' _ hE
   exact hE.elim
 · rintro ⟨Ad, df⟩ w' AA AU ⟨L, hL, hJ⟩ Ay
   simp only at AU AA
   subst AU
   obtain ⟨q, us, ms, rr, op, e7, BP, BU⟩ := hJ.2 (hL 16 (by decide))
   have e7 : Ad.getD 7 undef = ae q := e7
   have Az := fQ 14 28 7 (by kernel_rfl) AA Ay
   simp only [zs, Nat.reduceLT, Nat.reduceAdd, true_or, or_true, or_self, false_and, ne_eq, Nat.reduceEqDiff, not_false_eq_true, not_true_eq_false, and_self, and_false, if_true, if_false, e7] at Az
   rw [Az]
   clear Az hJ hL Ay AA e7 BD BI BE BQ Af Ae
   generalize Ad.getD 14 undef = x14
   generalize Ad.getD 15 undef = x15
   generalize Ad.getD 16 undef = x16
   generalize Ad.getD 17 undef = x17
   generalize Ad.getD 18 undef = x18
   generalize Ad.getD 19 undef = x19
   generalize Ad.getD 20 undef = x20
   generalize Ad.getD 21 undef = x21
   generalize Ad.getD 22 undef = x22
   generalize Ad.getD 23 undef = x23
   generalize Ad.getD 24 undef = x24
   generalize Ad.getD 25 undef = x25
   generalize Ad.getD 26 undef = x26
   generalize Ad.getD 27 undef = x27
   generalize Ad.getD 28 undef = x28
   have Aj := hide BP
   have Ax : Hid (Below W.heap.size W w') := hide (HDr.out.trans (BU.mono HDr.out.size))
   have BA : W0.heap.size = W.heap.size := by rw [← Bj]; rfl
   rw [BA] at Aj
   clear BP BU BA HDr HX1d
   have c2 := (At.out.keep (Ax.out.block _ At.out.lt)).get (i := 2) rfl
   go_wp2_with fail
   clear c2
   go_loopw [32] (fun x wr => ∃ (k : Nat) (H : Nat → List (List Int)) (vs : Nat → List Value), k ≤ T.rules.length ∧ x = .int .i64 k ∧ Hid (Gu T kA n k 0 H) ∧ Hid (Nw W.heap.size q us ms rr op n T.rules.length (dz T kA k) (opK T kT k) H vs wr) ∧ Hid (Below W.heap.size W wr)) (fun x _ => T.rules.length - (intOf x).toNat)
   case atStart => exact ⟨0, _, _, by omega, rfl, hide Gu.start, Aj, Ax⟩
   case round =>
    clear Aj Ax
    obtain ⟨k, H, vs, hk, rfl, HG, HN, HBr⟩ := hrel
    by_cases AB : k < T.rules.length
    · obtain ⟨r, hr⟩ := ap AB
      obtain ⟨h0, h1⟩ := HP.out.head r (List.mem_of_getElem? hr)
      obtain ⟨hm, Aw⟩ := Int.eq_ofNat_of_zero_le h0
      have AQ : hm < n := by omega
      have AV : ag T k = (hm : Int) := by unfold ag; rw [Int.toNat_natCast, hr]; exact Aw
      have BX : aC T kA k = kA r := by unfold aC; rw [Int.toNat_natCast, hr]; rfl
      have AP : aC T kT k = kT r := by unfold aC; rw [Int.toNat_natCast, hr]; rfl
      have AM : aB T k = r.body := by unfold aB; rw [Int.toNat_natCast, hr]; rfl
      have hR := TR.keep HBr.out.block Bi.out
      obtain ⟨gr, go, bd, bp, rfl, Bh, x0, x1, x2, -, BG, AJ⟩ := dx hR.rules hr
      have CJ : r.body.length ≤ 16 := (HP.out.ok.rule r (List.mem_of_getElem? hr)).2.2.2.2.1
      have Cr : Hid r.body.Nodup := hide (cq (bG (by omega) (HP.out.ok.rule r (List.mem_of_getElem? hr)).2.2.2.2.2).2)
      have CB : Hid (∀ x ∈ r.body, 0 ≤ x ∧ x < (n : Int)) := hide (HP.out.body r (List.mem_of_getElem? hr))
      have CF : Hid (∀ X, Below W.heap.size W X → At1 X bd (av r.body)) := hide fun X hX => by
       have h2 := TR.keep hX.block Bi.out
       obtain ⟨g3, o3, b3, p3, e3, BR, -, -, x3, -, -, Co⟩ := dx h2.rules hr
       cases e3
       have e4 : wr.cell? ⟨gr, go + k * 3 + 2, none⟩ = X.cell? ⟨gr, go + k * 3 + 2, none⟩ := (World.cell?_of_block (HBr.out.block gr BR)).trans (World.cell?_of_block (hX.block gr BR)).symm
       rw [x2, x3] at e4
       cases e4
       exact Co.at1
      rw [Aw] at x1
      have Au := aa wr (.cells #[.int .i64 r.kind, .int .i64 hm, .slice bd r.body.length bp] 36)
      have HQ : Hid (Fx wr.heap.size 36 [.int .i64 r.kind, .int .i64 hm, .slice bd r.body.length bp] (wr.alloc (.cells #[.int .i64 r.kind, .int .i64 hm, .slice bd r.body.length bp] 36))) := hide (heap_alloc_new wr _)
      have HNq := hide (HN.out.go Au)
      have HBq := hide (HBr.out.trans (Au.mono HBr.out.size))
      have HRr := hide hr
      have Bz := hide AV
      have Cz := hide BX
      have AC := hide AP
      have Bb := hide AM
      have HL := hide AB
      clear hr h0 h1 Aw hR Au AJ HN HBr Bh AV BX AP AM
      go_upto_region 5 with fail
      clear x0 x1 x2
      generalize wr.alloc (.cells #[.int .i64 r.kind, .int .i64 hm, .slice bd r.body.length bp] 36) = wq at *
      obtain ⟨qr, AO⟩ : ∃ qr, wr.heap.size = qr := ⟨_, rfl⟩
      rw [AO] at HQ ⊢
      clear AO
      have q0 := HQ.out.get (i := 0) rfl
      have q1 := HQ.out.get (i := 1) rfl
      have q2 := HQ.out.get (i := 2) rfl
      have CW := hide (ps (w := wq) (k := r.kind) (h := (hm : Int)) (v := .slice bd r.body.length bp))
      have BZ : Hid (kA r = true) := hide rfl
      have Bk : Hid (dz T kA (k + 1) = ar (dz T kA k) k (r.body.length : Nat)) := hide (by rw [jd, Cz.out, Bb.out, if_pos BZ.out])
      go_upto_region 6 with (go_at_call 30; refine CW.out.mono ?_; rintro _ w3 ⟨rfl, hb⟩; have AD := hide hb; clear hb)
      have As := hide (HNq.out.go AD.out)
      have AF := hide (HQ.out.keep (AD.out.block _ HQ.out.lt))
      have Ca := hide (HBq.out.trans (AD.out.mono HBq.out.size))
      clear HNq HQ HBq AD q0 q1 q2 CW
      have s1 := As.out.bx.get (i := 1) rfl
      have q2 := AF.out.get (i := 2) rfl
      have cm := As.out.fm.get (aX HL.out)
      have zm := As.out.fm.frz k
      have Bs := hide (As.out.setM HL.out (r.body.length : Nat))
      have Bw := hide (AF.out.keep (w' := w3.setCell ⟨ms, k, none⟩ (.int .i64 (r.body.length : Nat))) (other_set (am AF.out As.out.fm (by decide))))
      have BL := hide (Ca.out.setCell (p := ⟨ms, k, none⟩) As.out.lo.2.1 (.int .i64 (r.body.length : Nat)))
      have q2' := Bw.out.get (i := 2) rfl
      obtain ⟨AZ, Bm⟩ : ∃ AZ, ar (dz T kA k) k (r.body.length : Nat) = AZ := ⟨_, rfl⟩
      rw [Bm] at Bs Bk
      clear As AF Ca Bm
      go_wp2_with fail
      clear s1 q2 cm zm q2'
      go_loopw [51] (fun x wr => ∃ (j : Nat) (H : Nat → List (List Int)) (vs : Nat → List Value), j ≤ r.body.length ∧ x = .int .i64 j ∧ Hid (Gu T kA n k j H) ∧ Hid (Nw W.heap.size q us ms rr op n T.rules.length AZ (opK T kT k) H vs wr) ∧ Hid (Below W.heap.size W wr) ∧ Hid (Fx qr 36 [.int .i64 r.kind, .int .i64 hm, .slice bd r.body.length bp] wr)) (fun x _ => r.body.length - (intOf x).toNat)
      case atStart => exact ⟨0, _, _, by omega, rfl, HG, Bs, BL, Bw⟩
      case round =>
       clear HG Bs BL Bw
       rename World => wr3
       obtain ⟨j, H, vs, hj, rfl, HG, HN, HBq, HQ⟩ := hrel
       by_cases hjl : j < r.body.length
       · obtain ⟨x0, hx⟩ := ap hjl
         obtain ⟨y0, y1⟩ := CB.out x0 (List.mem_of_getElem? hx)
         obtain ⟨x, rfl⟩ := Int.eq_ofNat_of_zero_le y0
         have Bp : x < n := by omega
         obtain ⟨gx, ox, rfl, cx⟩ := (CF.out wr3 HBq.out).get hx
         have HXx := hide hx
         have Ce : Hid (∀ (c i : Nat) (l : List Int), c < 1 → (H c)[i]? = some l → l.length ≤ 4096) := hide fun c i l hc hl => HG.out.len (by have := HL.out; omega) (z := i) (by rw [← (show c = 0 by omega)]; exact hl)
         clear hx y0 y1
         go_upto_region 10 with fail
         have AI := (Below.refl wr3.heap.size wr3).drew
         have HNd0 := hide (HN.out.go AI)
         have HQd0 := hide (HQ.out.keep (AI.block _ HQ.out.lt))
         have HBd0 := hide (HBq.out.trans (AI.mono HBq.out.size))
         obtain ⟨wd, BC⟩ : ∃ wd, wr3.drew = wd := ⟨_, rfl⟩
         rw [BC] at HNd0 HQd0 HBd0
         obtain ⟨l0, An, Am, Bn, BO, Bd, Av⟩ := HNd0.out.h3.at (c := 0) (by omega) (show x < n from Bp)
         have Bd : wd.cell? ⟨us, x, none⟩ = some (.slice An l0.length Am) := Bd
         have CK : l0.length ≤ 4096 := Ce.out 0 _ _ (by omega) Bn
         have AN := aa wd (.cells #[.int .i64 k] 3)
         have By : W.heap.size ≤ wd.heap.size := HBd0.out.size
         obtain ⟨Ar, Al, w2, BM, AY, Ai, Bx, Cf⟩ := run_append_lies (P := Tryz.prog) (wd.alloc (.cells #[.int .i64 k] 3)) 26 26 W.heap.size 3 iI _ 1 8 Tryz.underlying26 Br Bq Bf Bu rfl (by decide) (.slice An l0.length Am) l0.length (av l0) (owns_keep Av fun g hg => AN.block g (aA Av hg)) ⟨wd.heap.size, 0, none⟩ 1 1 [.int .i64 k] rfl (World.news_of_block (cs := [.int .i64 k].toArray) (t := 3) (fr := (0, 0)) (heap_alloc_new wd (.cells #[.int .i64 k] 3))) (by simp [Value.oneCell']) (by decide) (by unfold maxLen; omega) (by omega) (by simp; omega) (wd.heap.size + 1) (by simp)
         have BW := hide BM
         have Ap : ∀ k, k < wd.heap.size → Value.ownBlock (.slice An l0.length Am) ≠ some k → w2.heap[k]? = wd.heap[k]? := fun k hk hn => (Ai.block k (by simp; omega) fun e => hn e.symm).trans (AN.block k hk)
         have AX := ao Av (HNd0.out.h3.fx 0 (by omega)) (by decide)
         have AW := ao Av HQd0.out (by decide)
         have Bv := ao Av HNd0.out.bx (by decide)
         obtain ⟨w3, AK⟩ : ∃ w3, w2.setCell ⟨us, x, none⟩ (.slice (some ⟨Ar, 0, none⟩) (l0.length + 1) Al) = w3 := ⟨_, rfl⟩
         have BJ := hide AK
         have HN0a : Hid (Nw W.heap.size q us ms rr op n T.rules.length AZ (opK T kT k) (up H 0 ((H 0).set x (l0 ++ [(k : Int)]))) (up vs 0 ((vs 0).set x (.slice (some ⟨Ar, 0, none⟩) (l0.length + 1) Al))) w3) := hide (by rw [← AK]; exact HNd0.out.add (c := 0) (by omega) Bn BO AY Ap (by rcases Bx with h | h; exact .inl h; exact .inr (by omega)))
         have AF : Hid (Fx qr 36 [.int .i64 r.kind, .int .i64 hm, .slice (some ⟨gx, ox, none⟩) r.body.length bp] w3) := hide (by rw [← AK]; exact (HQd0.out.keep (Ap _ HQd0.out.lt AW)).keep (other_set (am HQd0.out (HNd0.out.h3.fx 0 (by omega)) (by decide))))
         have AD : Hid (Below W.heap.size W w3) := hide (by rw [← AK]; exact (HBd0.out.trans (show Below W.heap.size wd w2 from (AN.mono By).trans ⟨Ai.os, Ai.tape, Ai.output, Ai.size, fun k hk => Ai.block k (by simp; omega) fun e => by have := (Av.lt k e.symm).1; omega⟩)).setCell (p := ⟨us, x, none⟩) (HNd0.out.h3.lo 0 (by omega)) (.slice (some ⟨Ar, 0, none⟩) (l0.length + 1) Al))
         have Be : ∀ {a : Addr} {v : Value}, wd.cell? a = some v → Value.ownBlock (.slice An l0.length Am) ≠ some a.block → ∀ X, X = wd ∨ X = wd.alloc (.cells #[.int .i64 k] 3) ∨ X = w2 → X.cell? a = some v := fun ha hn X hX => by
          have AB := World.block_lt_of_cell? wd _ ha
          rcases hX with rfl | rfl | rfl
          · exact ha
          · exact al ha AN
          · exact (World.cell?_of_block (Ap _ AB hn)).trans ha
         have LH := hide (Be (HNd0.out.bx.get (i := 0) (v := sl us n) rfl) Bv)
         have LQ := hide (Be (HQd0.out.get (i := 1) rfl) AW)
         have LR := hide (Be Bd AX)
         have q1 : w2.cell? ⟨us, x, none⟩ = some (.slice An l0.length Am) := LR.out w2 (.inr (.inr rfl))
         have q2 : w2.frozen? ⟨us, x, none⟩ = false := ((HNd0.out.h3.fx 0 (by omega)).keep (Ap _ (HNd0.out.h3.fx 0 (by omega)).lt AX)).frz x
         have Ak : Hid (jl ([some (55, .pointer (some ⟨q, 0, none⟩)), some (56, sl us n), some (57, .int .i64 x), some (58, .pointer (some ⟨q, 0, none⟩)), some (59, sl us n), some (60, .int .i64 x), some (61, .pointer (some ⟨us, x, none⟩)), some (62, .slice An l0.length Am), some (63, .int .i64 k), some (64, .slice (some ⟨wd.heap.size, 0, none⟩) 1 1), some (65, .slice (some ⟨Ar, 0, none⟩) (l0.length + 1) Al), some (66, .pointer (some ⟨us, x, none⟩)), none].map fun p : Option (Nat × Value) => p.map Prod.fst) [(7, ae q), (11, .int .i64 x), (8, .int .i64 k)] = true) := hide rfl
         clear HN HQ HBq Bd Ai AY BM AW Bv AX BO Bx Cf Be Ap AN Av HNd0 HQd0 HBd0 By AI AK
         refine dQ jX (Jt [some (55, .pointer (some ⟨q, 0, none⟩)), some (56, sl us n), some (57, .int .i64 x), some (58, .pointer (some ⟨q, 0, none⟩)), some (59, sl us n), some (60, .int .i64 x), some (61, .pointer (some ⟨us, x, none⟩)), some (62, .slice An l0.length Am), some (63, .int .i64 k), some (64, .slice (some ⟨wd.heap.size, 0, none⟩) 1 1), some (65, .slice (some ⟨Ar, 0, none⟩) (l0.length + 1) Al), some (66, .pointer (some ⟨us, x, none⟩)), none] [(7, ae q), (11, .int .i64 x), (8, .int .i64 k)] (fy 9 10 12 wd (wd.alloc (.cells #[.int .i64 k] 3)) w2 w3)) (by kernel_rfl) (by kernel_rfl) ?_ (ew ⟨?_, ?_, ?_, ?_, ?_, ?_, ?_, ?_, ?_, ?_, ?_, ?_, ?_, trivial⟩) ?_ ?_
         · exact ⟨fun p hp => by simp at hp; rcases hp with rfl | rfl | rfl <;> rfl, fun i d v _ hL => (by cases hL), BC⟩
         · intro ρ X L hc hf hL hd Ab hJ
           have k7 : ρ (.tmp 7) = ae q := hJ.base (7, ae q) (by simp)
           refine ah (v := .pointer (some ⟨q, 0, none⟩)) (w' := X) ?_ (hJ.put Ak.out rfl (by rw [az (by decide) (by decide) (by decide)]; exact hJ.wd))
           clear hd Ab hJ hL
           go_simp
         · intro ρ X L hc hf hL hd Ab hJ
           have CZ : ρ (.tmp 55) = .pointer (some ⟨q, 0, none⟩) := hJ.vals 0 55 (.pointer (some ⟨q, 0, none⟩)) rfl (hd ⟨0, .data⟩ (by simp) rfl)
           have Ah : L 12 = false := an (by kernel_rfl) Ab (k := 1) (by simp) hL
           have hx := LH.out X (bX hJ.wd Ah)
           clear Ah
           refine ah (v := sl us n) (w' := X) ?_ (hJ.put Ak.out rfl (by rw [az (by decide) (by decide) (by decide)]; exact hJ.wd))
           clear hd Ab hJ hL
           go_simp
         · intro ρ X L hc hf hL hd Ab hJ
           have Cp : ρ (.tmp 11) = .int .i64 x := hJ.base (11, .int .i64 x) (by simp)
           refine ah (v := .int .i64 x) (w' := X) ?_ (hJ.put Ak.out rfl (by rw [az (by decide) (by decide) (by decide)]; exact hJ.wd))
           clear hd Ab hJ hL
           go_simp
         · intro ρ X L hc hf hL hd Ab hJ
           have k7 : ρ (.tmp 7) = ae q := hJ.base (7, ae q) (by simp)
           refine ah (v := .pointer (some ⟨q, 0, none⟩)) (w' := X) ?_ (hJ.put Ak.out rfl (by rw [az (by decide) (by decide) (by decide)]; exact hJ.wd))
           clear hd Ab hJ hL
           go_simp
         · intro ρ X L hc hf hL hd Ab hJ
           have CV : ρ (.tmp 58) = .pointer (some ⟨q, 0, none⟩) := hJ.vals 3 58 (.pointer (some ⟨q, 0, none⟩)) rfl (hd ⟨3, .data⟩ (by simp) rfl)
           have Ah : L 12 = false := an (by kernel_rfl) Ab (k := 4) (by simp) hL
           have hx := LH.out X (bX hJ.wd Ah)
           clear Ah
           refine ah (v := sl us n) (w' := X) ?_ (hJ.put Ak.out rfl (by rw [az (by decide) (by decide) (by decide)]; exact hJ.wd))
           clear hd Ab hJ hL
           go_simp
         · intro ρ X L hc hf hL hd Ab hJ
           have Cp : ρ (.tmp 11) = .int .i64 x := hJ.base (11, .int .i64 x) (by simp)
           refine ah (v := .int .i64 x) (w' := X) ?_ (hJ.put Ak.out rfl (by rw [az (by decide) (by decide) (by decide)]; exact hJ.wd))
           clear hd Ab hJ hL
           go_simp
         · intro ρ X L hc hf hL hd Ab hJ
           have Dg : ρ (.tmp 59) = sl us n := hJ.vals 4 59 (sl us n) rfl (hd ⟨4, .data⟩ (by simp) rfl)
           have CS : ρ (.tmp 60) = .int .i64 x := hJ.vals 5 60 (.int .i64 x) rfl (hd ⟨5, .data⟩ (by simp) rfl)
           refine ah (v := .pointer (some ⟨us, x, none⟩)) (w' := X) ?_ (hJ.put Ak.out rfl (by rw [az (by decide) (by decide) (by decide)]; exact hJ.wd))
           clear hd Ab hJ hL
           go_simp
         · intro ρ X L hc hf hL hd Ab hJ
           have CX : ρ (.tmp 61) = .pointer (some ⟨us, x, none⟩) := hJ.vals 6 61 (.pointer (some ⟨us, x, none⟩)) rfl (hd ⟨6, .data⟩ (by simp) rfl)
           have Ah : L 12 = false := an (by kernel_rfl) Ab (k := 7) (by simp) hL
           have hx := LR.out X (bX hJ.wd Ah)
           clear Ah
           refine ah (v := .slice An l0.length Am) (w' := X) ?_ (hJ.put Ak.out rfl (by rw [az (by decide) (by decide) (by decide)]; exact hJ.wd))
           clear hd Ab hJ hL
           go_simp
         · intro ρ X L hc hf hL hd Ab hJ
           have k8 : ρ (.tmp 8) = .int .i64 k := hJ.base (8, .int .i64 k) (by simp)
           refine ah (v := .int .i64 k) (w' := X) ?_ (hJ.put Ak.out rfl (by rw [az (by decide) (by decide) (by decide)]; exact hJ.wd))
           clear hd Ab hJ hL
           go_simp
         · intro ρ X L hc hf hL hd Ab hJ
           have Dd : ρ (.tmp 63) = .int .i64 k := hJ.vals 8 63 (.int .i64 k) rfl (hd ⟨8, .data⟩ (by simp) rfl)
           have AG : L 10 = false := by cases e : L 10 with | false => rfl | true => (have := Ab 10 _ rfl e ⟨9, .data⟩ (by simp) rfl; rw [show (⟨9, .data⟩ : Edge).on = 9 from rfl] at this; rw [hL] at this; cases this)
           have Ah : L 12 = false := an (by kernel_rfl) Ab (k := 9) (by simp) hL
           have hX := hJ.wd.trans (kE hL AG Ah)
           refine ah (v := .slice (some ⟨wd.heap.size, 0, none⟩) 1 1) (w' := wd.alloc (.cells #[.int .i64 k] 3)) ?_ (hJ.put Ak.out rfl ((fO bK (by rw [aq (by decide)]; exact AG) (by rw [aq (by decide)]; exact Ah)).symm))
           subst hX
           clear hd Ab hJ hL AG Ah
           go_simp
         · intro ρ X L hc hf hL hd Ab hJ
           have CC : ρ (.tmp 62) = .slice An l0.length Am := hJ.vals 7 62 (.slice An l0.length Am) rfl (hd ⟨7, .data⟩ (by simp) rfl)
           have CH : ρ (.tmp 64) = .slice (some ⟨wd.heap.size, 0, none⟩) 1 1 := hJ.vals 9 64 (.slice (some ⟨wd.heap.size, 0, none⟩) 1 1) rfl (hd ⟨9, .data⟩ (by simp) rfl)
           have CG : L 9 = true := hd ⟨9, .data⟩ (by simp) rfl
           have Ah : L 12 = false := an (by kernel_rfl) Ab (k := 10) (by simp) hL
           have hX := hJ.wd.trans (fO CG hL Ah)
           refine gG _ _ 26 rfl CC CH (u := .slice (some ⟨Ar, 0, none⟩) (l0.length + 1) Al) (w' := w2) (by rw [hX]; exact BW.out) (hJ.put Ak.out rfl ((fN bK (by rw [aq (by decide)]; exact Ah)).symm))
         · intro ρ X L hc hf hL hd Ab hJ
           have Dh : ρ (.tmp 56) = sl us n := hJ.vals 1 56 (sl us n) rfl (hd ⟨1, .data⟩ (by simp) rfl)
           have CP : ρ (.tmp 57) = .int .i64 x := hJ.vals 2 57 (.int .i64 x) rfl (hd ⟨2, .data⟩ (by simp) rfl)
           refine ah (v := .pointer (some ⟨us, x, none⟩)) (w' := X) ?_ (hJ.put Ak.out rfl (by rw [az (by decide) (by decide) (by decide)]; exact hJ.wd))
           clear hd Ab hJ hL
           go_simp
         · intro ρ X L hc hf hL hd Ab hJ
           have Dm : ρ (.tmp 66) = .pointer (some ⟨us, x, none⟩) := hJ.vals 11 66 (.pointer (some ⟨us, x, none⟩)) rfl (hd ⟨11, .data⟩ (by simp) rfl)
           have CO : ρ (.tmp 65) = .slice (some ⟨Ar, 0, none⟩) (l0.length + 1) Al := hJ.vals 10 65 (.slice (some ⟨Ar, 0, none⟩) (l0.length + 1) Al) rfl (hd ⟨10, .data⟩ (by simp) rfl)
           have AG : L 10 = true := hd ⟨10, .data⟩ (by simp) rfl
           have hX := hJ.wd.trans (fN AG hL)
           refine dH (w' := w3) ?_ (hJ.last rfl ((fR bK).symm))
           subst hX
           clear hd Ab hJ hL AG
           rw [← BJ.out]
           go_simp
         · intro c a' w' _ hE
           exact hE.elim
         · rintro ⟨Ad, df⟩ w' AA AU ⟨L, hL, hJ⟩ Ay
           simp only at AU AA
           subst AU
           have Cs : w3 = w' := (hJ.wd.trans (fR (hL 12 (by decide)))).symm
           subst Cs
           have Az := eU 55 66 (by kernel_rfl) AA Ay
           simp only [zr, Nat.reduceLT, Nat.reduceAdd, true_or, or_true, or_self, if_true, if_false] at Az
           rw [Az]
           clear Az hJ hL Ay AA Ak BW BJ LH LQ LR q1 q2 BC
           generalize Ad.getD 55 undef = x55
           generalize Ad.getD 56 undef = x56
           generalize Ad.getD 57 undef = x57
           generalize Ad.getD 58 undef = x58
           generalize Ad.getD 59 undef = x59
           generalize Ad.getD 60 undef = x60
           generalize Ad.getD 61 undef = x61
           generalize Ad.getD 62 undef = x62
           generalize Ad.getD 63 undef = x63
           generalize Ad.getD 64 undef = x64
           generalize Ad.getD 65 undef = x65
           generalize Ad.getD 66 undef = x66
           have Ba := hide (HG.out.add HRr.out Cr.out HXx.out Bp Bn)
           go_wp2_with fail
           go_roundw
           case rel => exact ⟨j + 1, _, _, by omega, by go_num, Ba, HN0a, AD, AF⟩
           case measure => simp [intOf]; omega
       · have Ba := hide (HG.out.next HRr.out BZ.out (by omega))
         have q0 := HQ.out.get (i := 0) rfl
         have q1 := HQ.out.get (i := 1) rfl
         have q2 := HQ.out.get (i := 2) rfl
         have CL := hide (dL (w := wr3) (k := r.kind) (h := (hm : Int)) (v := .slice bd r.body.length bp))
         cases htk : decide (r.kind = 3) with
         | true =>
          have Aq : Hid (kT r = false) := hide (by unfold kT; rw [htk]; rfl)
          rw [htk] at CL
          clear htk
          have Ao : Hid (opK T kT (k + 1) = opK T kT k) := hide (by rw [gW, AC.out, if_neg (by rw [Aq.out]; decide)])
          go_wp2_with (go_at_call 31; refine CL.out.mono ?_; rintro _ w5 ⟨rfl, hb⟩; have Ag := hide hb; clear hb)
          go_roundw
          case rel => exact ⟨k + 1, _, _, by have := HL.out; omega, by go_num, Ba, hide (by rw [Bk.out, Ao.out]; exact HN.out.go Ag.out), hide (HBq.out.trans (Ag.out.mono HBq.out.size))⟩
          case measure => have := HL.out; simp [intOf]; omega
         | false =>
          have Aq : Hid (kT r = true) := hide (by unfold kT; rw [htk]; rfl)
          rw [htk] at CL
          clear htk
          have Ao : Hid (opK T kT (k + 1) = ar (opK T kT k) hm (aE (opK T kT k hm))) := hide (by rw [gW, AC.out, if_pos Aq.out, Bz.out])
          go_upto_region 13 with (go_at_call 31; refine CL.out.mono ?_; rintro _ w5 ⟨rfl, hb⟩; have Ag := hide hb; clear hb)
          have AE := hide (HN.out.go Ag.out)
          have BH := hide (HQ.out.keep (Ag.out.block _ HQ.out.lt))
          have BY := hide (HBq.out.trans (Ag.out.mono HBq.out.size))
          clear HN HQ HBq Ag q0 q1 q2 CL
          have s3 := AE.out.bx.get (i := 3) rfl
          have q1 := BH.out.get (i := 1) rfl
          have co := AE.out.fo.get (aX AQ)
          have zo := AE.out.fo.frz hm
          obtain ⟨v1, BS⟩ : ∃ v1, IntKind.i64.wrap (opK T kT k hm + 1) = v1 := ⟨_, rfl⟩
          have HV : Hid (aE (opK T kT k hm) = v1) := hide BS
          have Cv := hide (AE.out.setO AQ v1)
          have CA := hide (BY.out.setCell (p := ⟨op, hm, none⟩) AE.out.lo.2.2.2 (.int .i64 v1))
          generalize opK T kT k hm = xo at co BS
          clear AE BH BY
          go_wp2_with fail
          go_roundw
          case rel => exact ⟨k + 1, _, _, by have := HL.out; omega, by go_num, Ba, hide (by rw [Bk.out, Ao.out, HV.out]; exact Cv.out), CA⟩
          case measure => have := HL.out; simp [intOf]; omega
    · have AT : k = T.rules.length := by omega
      have Aj : Hid (Nw W.heap.size q us ms rr op n T.rules.length (dz T kA T.rules.length) (cE T kT (opK T kT T.rules.length) 0) H vs wr) := hide (by have := HN.out; rw [AT] at this; exact this)
      have Ct : Hid (Gu T kA n T.rules.length 0 H) := hide (by have := HG.out; rw [AT] at this; exact this)
      have Ax := hide HBr.out
      clear HN HG HBr AT
      have c2 := (At.out.keep (Ax.out.block _ At.out.lt)).get (i := 2) rfl
      go_wp2_with fail
      clear c2
      go_loopw [83] (fun x wr => ∃ k : Nat, k ≤ T.rules.length ∧ x = .int .i64 k ∧ Hid (Nw W.heap.size q us ms rr op n T.rules.length (dz T kA T.rules.length) (cE T kT (opK T kT T.rules.length) k) H vs wr) ∧ Hid (Below W.heap.size W wr)) (fun x _ => T.rules.length - (intOf x).toNat)
      case atStart => exact ⟨0, by omega, rfl, Aj, Ax⟩
      case round =>
       clear Aj Ax
       rename World => wr5
       obtain ⟨k, hk, rfl, HN, HBr⟩ := hrel
       by_cases AB : k < T.rules.length
       · obtain ⟨r, hr⟩ := ap AB
         obtain ⟨h0, h1⟩ := HP.out.head r (List.mem_of_getElem? hr)
         obtain ⟨hm, Aw⟩ := Int.eq_ofNat_of_zero_le h0
         have AQ : hm < n := by omega
         have AV : ag T k = (hm : Int) := by unfold ag; rw [Int.toNat_natCast, hr]; exact Aw
         have AP : aC T kT k = kT r := by unfold aC; rw [Int.toNat_natCast, hr]; rfl
         have AM : aB T k = r.body := by unfold aB; rw [Int.toNat_natCast, hr]; rfl
         have hR := TR.keep HBr.out.block Bi.out
         obtain ⟨gr, go, bd, bp, rfl, Bh, x0, x1, x2, -, BG, AJ⟩ := dx hR.rules hr
         rw [Aw] at x1
         have Au := aa wr5 (.cells #[.int .i64 r.kind, .int .i64 hm, .slice bd r.body.length bp] 36)
         have HQ : Hid (Fx wr5.heap.size 36 [.int .i64 r.kind, .int .i64 hm, .slice bd r.body.length bp] (wr5.alloc (.cells #[.int .i64 r.kind, .int .i64 hm, .slice bd r.body.length bp] 36))) := hide (heap_alloc_new wr5 _)
         have HNq := hide (HN.out.go Au)
         have HBq := hide (HBr.out.trans (Au.mono HBr.out.size))
         have Bz := hide AV
         have AC := hide AP
         have Bb := hide AM
         have HL := hide AB
         clear hr h0 h1 Aw hR Au AJ HN HBr Bh AV AP AM
         go_upto_region 18 with fail
         clear x0 x1 x2
         generalize wr5.alloc (.cells #[.int .i64 r.kind, .int .i64 hm, .slice bd r.body.length bp] 36) = wq at *
         obtain ⟨qr, AO⟩ : ∃ qr, wr5.heap.size = qr := ⟨_, rfl⟩
         rw [AO] at HQ ⊢
         clear AO
         have q0 := HQ.out.get (i := 0) rfl
         have q1 := HQ.out.get (i := 1) rfl
         have q2 := HQ.out.get (i := 2) rfl
         have CL := hide (dL (w := wq) (k := r.kind) (h := (hm : Int)) (v := .slice bd r.body.length bp))
         cases htk : decide (r.kind = 3) with
         | true =>
          have Aq : Hid (kT r = false) := hide (by unfold kT; rw [htk]; rfl)
          have Ao : Hid (cE T kT (opK T kT T.rules.length) (k + 1) = cE T kT (opK T kT T.rules.length) k) := hide (by rw [eG, AC.out, Aq.out]; rfl)
          rw [htk] at CL
          clear htk
          go_wp2_with (go_at_call 31; refine CL.out.mono ?_; rintro _ w5 ⟨rfl, hb⟩; have Ag := hide hb; clear hb)
          go_roundw
          case rel => exact ⟨k + 1, by have := HL.out; omega, by go_num, hide (by rw [Ao.out]; exact HNq.out.go Ag.out), hide (HBq.out.trans (Ag.out.mono HBq.out.size))⟩
          case measure => have := HL.out; simp [intOf]; omega
         | false =>
          have Aq : Hid (kT r = true) := hide (by unfold kT; rw [htk]; rfl)
          rw [htk] at CL
          clear htk
          by_cases he : r.body.length = 0
          · have AR : r.body.isEmpty = true := by rw [List.isEmpty_iff]; exact List.eq_nil_of_length_eq_zero he
            have Ao : Hid (cE T kT (opK T kT T.rules.length) (k + 1) = ar (cE T kT (opK T kT T.rules.length) k) hm 0) := hide (by rw [eG, AC.out, Aq.out, Bb.out, AR, Bz.out]; rfl)
            have Cc : ((r.body.length : Int) == 0) = true := by simpa using he
            have Bc : Hid (∀ X, Below wq.heap.size wq X → X.cell? ⟨qr, 1, none⟩ = some (.int .i64 hm) ∧ X.cell? ⟨qr, 2, none⟩ = some (.slice bd r.body.length bp) ∧ X.cell? ⟨q, 3, none⟩ = some (sl op n) ∧ X.cell? ⟨op, hm, none⟩ = some (.int .i64 (cE T kT (opK T kT T.rules.length) k hm)) ∧ X.frozen? ⟨op, hm, none⟩ = false) := hide fun X hX => by
             have a := HQ.out.keep (hX.block _ HQ.out.lt)
             have b := HNq.out.go hX
             exact ⟨a.get (i := 1) rfl, a.get (i := 2) rfl, b.bx.get (i := 3) rfl, b.fo.get (aX AQ), b.fo.frz hm⟩
            clear AR
            rw [he] at *
            go_wp2_with (go_at_call 31; refine CL.out.mono ?_; rintro _ w5 ⟨rfl, hb⟩; have Ag := hide hb; obtain ⟨k1, k2, k3, k4, k5⟩ := Bc.out w5 hb; clear hb)
            go_roundw
            case rel => exact ⟨k + 1, by have := HL.out; omega, by go_num, hide (by rw [Ao.out]; exact (HNq.out.go Ag.out).setO AQ 0), hide ((HBq.out.trans (Ag.out.mono HBq.out.size)).setCell (p := ⟨op, hm, none⟩) HNq.out.lo.2.2.2 (.int .i64 0))⟩
            case measure => have := HL.out; simp [intOf]; omega
          · have AR : r.body.isEmpty = false := by cases hb : r.body with
             | nil => rw [hb] at he; simp at he
             | cons _ _ => rfl
            have Ao : Hid (cE T kT (opK T kT T.rules.length) (k + 1) = cE T kT (opK T kT T.rules.length) k) := hide (by rw [eG, AC.out, Aq.out, Bb.out, AR]; rfl)
            have Cc : ((r.body.length : Int) == 0) = false := by simpa using he
            have Cm : (r.body.length == 0) = false := by simpa using he
            have Bc : Hid (∀ X, Below wq.heap.size wq X → X.cell? ⟨qr, 2, none⟩ = some (.slice bd r.body.length bp)) := hide fun X hX => (HQ.out.keep (hX.block _ HQ.out.lt)).get (i := 2) rfl
            obtain ⟨bl, Cd⟩ : ∃ bl, r.body.length = bl := ⟨_, rfl⟩
            rw [Cd] at Bc he Cc Cm CL q2 BG
            clear AR
            go_wp2_with (go_at_call 31; refine CL.out.mono ?_; rintro _ w5 ⟨rfl, hb⟩; have Ag := hide hb; have k2 := Bc.out w5 hb; clear hb)
            go_roundw
            case rel => exact ⟨k + 1, by have := HL.out; omega, by go_num, hide (by rw [Ao.out]; exact HNq.out.go Ag.out), hide (HBq.out.trans (Ag.out.mono HBq.out.size))⟩
            case measure => have := HL.out; simp [intOf]; omega
       · have AT : k = T.rules.length := by omega
         have Aj : Hid (Nw W.heap.size q us ms rr op n T.rules.length (dz T kA T.rules.length) (cE T kT (opK T kT T.rules.length) T.rules.length) H vs wr5) := hide (by have := HN.out; rw [AT] at this; exact this)
         clear HN
         have c0 := Aj.out.bx.get (i := 0) rfl
         have c1 := Aj.out.bx.get (i := 1) rfl
         have c2 := Aj.out.bx.get (i := 2) rfl
         have c3 := Aj.out.bx.get (i := 3) rfl
         have HX2r := hide (AS.out.keep (HBr.out.block _ AS.out.lt))
         have CY : bq + 1 < W.heap.size := AS.out.lt
         go_upto_region 21 with fail
         refine wp_region_lit ?_
         refine wpList_plain rfl fun K hK => ?_
         go_simp
         refine hK _ _ ?_
         clear hK
         refine wpList_plain rfl fun K hK => ?_
         refine wp_store_row 48 _ _ rfl (bq + 1) _ rfl rfl _ _ HX2r.out (by kernel_rfl) rfl (by simp [sl, Value.oneCell']) ?_
         refine hK _ _ ?_
         clear hK
         have AH := hide (setRow_heap wr5 (bq + 1) _ #[sl us n, sl ms T.rules.length, sl rr T.rules.length, sl op n] _ _ HX2r.out)
         have Cy := hide (Aj.out.far (w' := wr5.setRow (bq + 1) #[sl us n, sl ms T.rules.length, sl rr T.rules.length, sl op n]) (fun g hg _ => setRow_other _ _ _ _ (by omega)) HB.out.size)
         have Cw := hide (gL (b := bq + 1) (HB.out.trans (HBr.out.mono HB.out.size)) (by rw [Cq.out]; omega) #[sl us n, sl ms T.rules.length, sl rr T.rules.length, sl op n])
         generalize wr5.setRow (bq + 1) #[sl us n, sl ms T.rules.length, sl rr T.rules.length, sl op n] = Y at *
         clear Aj HBr c0 c1 c2 c3 HX2r AS
         go_wp2_with fail
         refine bodyPost_ret (v := .agg #[sl us n, sl ms T.rules.length, sl rr T.rules.length, sl op n]) (pJ rfl AH.out) rfl ?_
         exact ⟨q, us, ms, rr, op, vs, H, rfl, Cy.out, fun z hz => by have := Ct.out.u z hz; simpa using this, Cw.out⟩
end Go.Proofs.YthifoamnmhlghaaGreat.Fa
