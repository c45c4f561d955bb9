import Derived.Test.YtmlhcncagdfjfaaGreatNob
set_option maxRecDepth 100000
set_option maxHeartbeats 12800000
namespace Go.Proofs.YtmlhcncagdfjfaaGreat.Fa
open Go.RowKit Rg
def kD (d : Int → Bool) (r : RuleM) : Bool := d r.kind
theorem lj {f1 f2 : FuncId} {d1 d2 : Int → Bool} (C1 : ∀ (w : World) (k h : Int) (v : Value), Calls Tryz.prog f1 #[.agg #[.int .i64 k, .int .i64 h, v]] w fun o w' => o = .returned (.bool (d1 k)) ∧ Below w.heap.size w w') (C2 : ∀ (w : World) (k h : Int) (v : Value), Calls Tryz.prog f2 #[.agg #[.int .i64 k, .int .i64 h, v]] w fun o w' => o = .returned (.bool (d2 k)) ∧ Below w.heap.size w w') (himp : ∀ k, d1 k = false → d2 k = false) (E1 : ∀ args w', (callFunc f1 args).run Tryz.prog w' = .ok (.enter f1 args) w') (E2 : ∀ args w', (callFunc f2 args).run Tryz.prog w' = .ok (.enter f2 args) w') {w : World} {T : Th} {F : List Int} {n : Nat} {fa ra ba : Option Addr} {fc rc bc : Nat} (h : TA w.heap.size w T fa fc ra rc ba bc) (hp : Pf T F n) :
    Calls Tryz.prog 173 #[tv T fa fc ra rc ba bc, .func (.func f1) #[] #[], .func (.func f2) #[] #[]] w fun o w' => ∃ q us ms rr op vs H, o = .returned (.agg (rT us ms rr op n T.rules.length).toArray) ∧ Nw w.heap.size q us ms rr op n T.rules.length (fD T (kD d1) T.rules.length) (eF T (kD d2) (opK T (kD d2) T.rules.length) T.rules.length) H vs w' ∧ (∀ z : Nat, z < n → (H 0).getD z [] = dw T (kD d1) T.rules.length z) ∧ Below w.heap.size w w' := by
 obtain ⟨iL, Cy, Ch, Cm, Co⟩ := info_parts pp
 obtain ⟨iB, Cs, Cp, CA, CH⟩ := info_parts kP
 obtain ⟨iI, Bi, Bq, Bl, Bs⟩ := info_parts iE
 have Dc := hp.n4
 have Dj : T.rules.length ≤ 4096 := hp.ok.rl
 have BX : ∀ W, (Instr.makeSlice 22 (.int .i64 T.lits) (.int .i64 T.lits)).run Tryz.prog W = .ok (sl W.heap.size n) (W.alloc (.cells (Array.replicate n (.slice none 0 0)) 26)) := fun W => by rw [hp.ln]; exact aW (P := Tryz.prog) Tryz.underlying22 Cy Ch Cm rfl n (by rw [Co]; omega) (by unfold maxLen; omega) W
 have BS : ∀ W, (Instr.makeSlice 26 (.int .i64 T.lits) (.int .i64 T.lits)).run Tryz.prog W = .ok (sl W.heap.size n) (W.alloc (.cells (Array.replicate n (.int .i64 0)) 3)) := fun W => by rw [hp.ln]; exact aW (P := Tryz.prog) Tryz.underlying26 Bi Bq Bl rfl n (by rw [Bs]; omega) (by unfold maxLen; omega) W
 have BV : ∀ W, (Instr.makeSlice 26 (.int .i64 T.rules.length) (.int .i64 T.rules.length)).run Tryz.prog W = .ok (sl W.heap.size T.rules.length) (W.alloc (.cells (Array.replicate T.rules.length (.int .i64 0)) 3)) := fun W => aW (P := Tryz.prog) Tryz.underlying26 Bi Bq Bl rfl T.rules.length (by rw [Bs]; omega) (by unfold maxLen; omega) W
 have BK : ∀ W, (Instr.makeSlice 106 (.int .i64 T.rules.length) (.int .i64 T.rules.length)).run Tryz.prog W = .ok (sl W.heap.size T.rules.length) (W.alloc (.cells (Array.replicate T.rules.length (.bool false)) 4)) := fun W => aW (P := Tryz.prog) Tryz.underlying106 Cs Cp CA rfl T.rules.length (by rw [CH]; omega) (by unfold maxLen; omega) W
 have Bt := ac w (.cells #[.int .i64 T.lits, .slice fa T.foes.length fc, .slice ra T.rules.length rc, .slice ba T.beats.length bc] 25)
 have Br := ac (w.alloc (.cells #[.int .i64 T.lits, .slice fa T.foes.length fc, .slice ra T.rules.length rc, .slice ba T.beats.length bc] 25)) (.cells #[.slice none 0 0, .slice none 0 0, .slice none 0 0, .slice none 0 0] 178)
 have hB := Bt.trans (Br.mono Bt.size)
 have BN : Fx w.heap.size 25 [.int .i64 T.lits, .slice fa T.foes.length fc, .slice ra T.rules.length rc, .slice ba T.beats.length bc] ((w.alloc (.cells #[.int .i64 T.lits, .slice fa T.foes.length fc, .slice ra T.rules.length rc, .slice ba T.beats.length bc] 25)).alloc (.cells #[.slice none 0 0, .slice none 0 0, .slice none 0 0, .slice none 0 0] 178)) := (Br.block _ (by simp)).trans (heap_alloc_new w _)
 have BT : Fx (w.heap.size + 1) 178 [.slice none 0 0, .slice none 0 0, .slice none 0 0, .slice none 0 0] ((w.alloc (.cells #[.int .i64 T.lits, .slice fa T.foes.length fc, .slice ra T.rules.length rc, .slice ba T.beats.length bc] 25)).alloc (.cells #[.slice none 0 0, .slice none 0 0, .slice none 0 0, .slice none 0 0] 178)) := by
  have := heap_alloc_new (w.alloc (.cells #[.int .i64 T.lits, .slice fa T.foes.length fc, .slice ra T.rules.length rc, .slice ba T.beats.length bc] 25)) (.cells #[.slice none 0 0, .slice none 0 0, .slice none 0 0, .slice none 0 0] 178)
  simpa [Fx] using this
 have BB := hide (TR.go hB h)
 have HP := hide hp
 have H1 := hide C1
 have H2 := hide C2
 have HI := hide himp
 clear C1 C2 himp
 have HB := hide hB
 have Aw := hide BN
 have AW := hide BT
 clear h hp hB Bt Br
 go_enter Tryz.func173, Tryz.ntmps173
 go_upto_region 1 with fail
 clear BN BT
 generalize (w.alloc (.cells #[.int .i64 T.lits, .slice fa T.foes.length fc, .slice ra T.rules.length rc, .slice ba T.beats.length bc] 25)).alloc (.cells #[.slice none 0 0, .slice none 0 0, .slice none 0 0, .slice none 0 0] 178) = W at *
 obtain ⟨bq, Bn⟩ : ∃ bq, w.heap.size = bq := ⟨_, rfl⟩
 have CC := hide Bn
 rw [Bn] at Aw AW ⊢
 clear Bn
 have HDr := hide ((Below.refl W.heap.size W).drew)
 obtain ⟨W0, Bu⟩ : ∃ W0, W.drew = W0 := ⟨_, rfl⟩
 have HX1d := hide (Aw.out.keep (HDr.out.block _ Aw.out.lt))
 have Ae : Hid (gu [some 14, some 15, some 16, some 17, some 18, some 19, some 20, some 21, some 22, some 23, some 24, some 25, some 26, some 27, some 28, some 7, none] [(3, ab bq)] = true) := hide rfl
 rw [Bu] at HX1d HDr
 have Af : Hid (∀ X, Below W0.heap.size W0 X → X.cell? ⟨bq, 0, none⟩ = some (.int .i64 T.lits) ∧ X.cell? ⟨bq, 2, none⟩ = some (.slice ra T.rules.length rc)) := hide fun X hX => by
  have hf := HX1d.out.keep (hX.block _ HX1d.out.lt)
  exact ⟨hf.get (i := 0) rfl, hf.get (i := 2) rfl⟩
 refine bW gl (Jl 16 [some 14, some 15, some 16, some 17, some 18, some 19, some 20, some 21, some 22, some 23, some 24, some 25, some 26, some 27, some 28, some 7, none] [(3, ab bq)] (xa T.rules.length ra rc T bq n W0.heap.size) (yZ T.rules.length n W0) W0) (by kernel_rfl) (by kernel_rfl) ?_ (cj ⟨?_, ?_, ?_, ?_, ?_, ?_, ?_, ?_, ?_, ?_, ?_, ?_, ?_, ?_, ?_, ?_, ?_, trivial⟩) ?_ ?_
 · refine ⟨fun _ => ?_, fun e => by cases e⟩
   show Jg _ _ _ W0 _ _ W.drew
   rw [Bu]
   exact Jg.start.2 fun p hp => by simp at hp; subst hp; rfl
 · intro ρ X L hc hf hL hd Ab Ac
   have Aa : L 16 = false := ak (by kernel_rfl) Ab (k := 0) (by simp) hL
   have hJ := Ac.1 Aa
   obtain ⟨c0, c2⟩ := Af.out X hJ.low
   have k3 : ρ (.tmp 3) = ab bq := hJ.base (3, ab bq) (by simp)
   refine aa (v := ab bq) (w' := X) ?_ ⟨fun _ => hJ.put Ae.out dc (i := 0) (d := 14) rfl (Below.refl _ _) (rfl), fun e => by rw [al (by decide), Aa] at e; cases e⟩
   clear hd Ab hJ Ac hL Aa
   go_simp
 · intro ρ X L hc hf hL hd Ab Ac
   have Aa : L 16 = false := ak (by kernel_rfl) Ab (k := 1) (by simp) hL
   have hJ := Ac.1 Aa
   obtain ⟨c0, c2⟩ := Af.out X hJ.low
   obtain ⟨_, _, _, e1⟩ := hJ.get (i := 0) (d := 14) rfl (hd ⟨0, .data⟩ (by simp) rfl)
   have Db : ρ (.tmp 14) = ab bq := e1
   clear e1
   refine aa (v := .int .i64 T.lits) (w' := X) ?_ ⟨fun _ => hJ.put Ae.out dc (i := 1) (d := 15) rfl (Below.refl _ _) (rfl), fun e => by rw [al (by decide), Aa] at e; cases e⟩
   clear hd Ab hJ Ac hL Aa
   go_simp
 · intro ρ X L hc hf hL hd Ab Ac
   have Aa : L 16 = false := ak (by kernel_rfl) Ab (k := 2) (by simp) hL
   have hJ := Ac.1 Aa
   obtain ⟨c0, c2⟩ := Af.out X hJ.low
   obtain ⟨_, _, _, e1⟩ := hJ.get (i := 1) (d := 15) rfl (hd ⟨1, .data⟩ (by simp) rfl)
   have CO : ρ (.tmp 15) = .int .i64 T.lits := e1
   have Bv := BX X
   clear e1
   refine aa (v := sl X.heap.size n) (w' := X.alloc (.cells (Array.replicate n (.slice none 0 0)) 26)) ?_ ⟨fun _ => hJ.put Ae.out dc (i := 2) (d := 16) rfl (ac X _) (⟨X.heap.size, rfl, by unfold Fx; rw [heap_alloc_new]; simp, Nat.le_refl _, by simp, hJ.low.size⟩), fun e => by rw [al (by decide), Aa] at e; cases e⟩
   clear hd Ab hJ Ac hL Aa
   go_simp
 · intro ρ X L hc hf hL hd Ab Ac
   have Aa : L 16 = false := ak (by kernel_rfl) Ab (k := 3) (by simp) hL
   have hJ := Ac.1 Aa
   obtain ⟨c0, c2⟩ := Af.out X hJ.low
   have k3 : ρ (.tmp 3) = ab bq := hJ.base (3, ab bq) (by simp)
   refine aa (v := .pointer (some ⟨bq, 2, none⟩)) (w' := X) ?_ ⟨fun _ => hJ.put Ae.out dc (i := 3) (d := 17) rfl (Below.refl _ _) (rfl), fun e => by rw [al (by decide), Aa] at e; cases e⟩
   clear hd Ab hJ Ac hL Aa
   go_simp
 · intro ρ X L hc hf hL hd Ab Ac
   have Aa : L 16 = false := ak (by kernel_rfl) Ab (k := 4) (by simp) hL
   have hJ := Ac.1 Aa
   obtain ⟨c0, c2⟩ := Af.out X hJ.low
   obtain ⟨_, _, _, e1⟩ := hJ.get (i := 3) (d := 17) rfl (hd ⟨3, .data⟩ (by simp) rfl)
   have Dm : ρ (.tmp 17) = .pointer (some ⟨bq, 2, none⟩) := e1
   clear e1
   refine aa (v := .slice ra T.rules.length rc) (w' := X) ?_ ⟨fun _ => hJ.put Ae.out dc (i := 4) (d := 18) rfl (Below.refl _ _) (rfl), fun e => by rw [al (by decide), Aa] at e; cases e⟩
   clear hd Ab hJ Ac hL Aa
   go_simp
 · intro ρ X L hc hf hL hd Ab Ac
   have Aa : L 16 = false := ak (by kernel_rfl) Ab (k := 5) (by simp) hL
   have hJ := Ac.1 Aa
   obtain ⟨c0, c2⟩ := Af.out X hJ.low
   obtain ⟨_, _, _, e1⟩ := hJ.get (i := 4) (d := 18) rfl (hd ⟨4, .data⟩ (by simp) rfl)
   have CN : ρ (.tmp 18) = .slice ra T.rules.length rc := e1
   clear e1
   refine aa (v := .int .i64 T.rules.length) (w' := X) ?_ ⟨fun _ => hJ.put Ae.out dc (i := 5) (d := 19) rfl (Below.refl _ _) (rfl), fun e => by rw [al (by decide), Aa] at e; cases e⟩
   clear hd Ab hJ Ac hL Aa
   go_simp
 · intro ρ X L hc hf hL hd Ab Ac
   have Aa : L 16 = false := ak (by kernel_rfl) Ab (k := 6) (by simp) hL
   have hJ := Ac.1 Aa
   obtain ⟨c0, c2⟩ := Af.out X hJ.low
   obtain ⟨_, _, _, e1⟩ := hJ.get (i := 5) (d := 19) rfl (hd ⟨5, .data⟩ (by simp) rfl)
   have CT : ρ (.tmp 19) = .int .i64 T.rules.length := e1
   have Bv := BV X
   clear e1
   refine aa (v := sl X.heap.size T.rules.length) (w' := X.alloc (.cells (Array.replicate T.rules.length (.int .i64 0)) 3)) ?_ ⟨fun _ => hJ.put Ae.out dc (i := 6) (d := 20) rfl (ac X _) (⟨X.heap.size, rfl, by unfold Fx; rw [heap_alloc_new, me], Nat.le_refl _, by simp, hJ.low.size⟩), fun e => by rw [al (by decide), Aa] at e; cases e⟩
   clear hd Ab hJ Ac hL Aa
   go_simp
 · intro ρ X L hc hf hL hd Ab Ac
   have Aa : L 16 = false := ak (by kernel_rfl) Ab (k := 7) (by simp) hL
   have hJ := Ac.1 Aa
   obtain ⟨c0, c2⟩ := Af.out X hJ.low
   have k3 : ρ (.tmp 3) = ab bq := hJ.base (3, ab bq) (by simp)
   refine aa (v := .pointer (some ⟨bq, 2, none⟩)) (w' := X) ?_ ⟨fun _ => hJ.put Ae.out dc (i := 7) (d := 21) rfl (Below.refl _ _) (rfl), fun e => by rw [al (by decide), Aa] at e; cases e⟩
   clear hd Ab hJ Ac hL Aa
   go_simp
 · intro ρ X L hc hf hL hd Ab Ac
   have Aa : L 16 = false := ak (by kernel_rfl) Ab (k := 8) (by simp) hL
   have hJ := Ac.1 Aa
   obtain ⟨c0, c2⟩ := Af.out X hJ.low
   obtain ⟨_, _, _, e1⟩ := hJ.get (i := 7) (d := 21) rfl (hd ⟨7, .data⟩ (by simp) rfl)
   have Df : ρ (.tmp 21) = .pointer (some ⟨bq, 2, none⟩) := e1
   clear e1
   refine aa (v := .slice ra T.rules.length rc) (w' := X) ?_ ⟨fun _ => hJ.put Ae.out dc (i := 8) (d := 22) rfl (Below.refl _ _) (rfl), fun e => by rw [al (by decide), Aa] at e; cases e⟩
   clear hd Ab hJ Ac hL Aa
   go_simp
 · intro ρ X L hc hf hL hd Ab Ac
   have Aa : L 16 = false := ak (by kernel_rfl) Ab (k := 9) (by simp) hL
   have hJ := Ac.1 Aa
   obtain ⟨c0, c2⟩ := Af.out X hJ.low
   obtain ⟨_, _, _, e1⟩ := hJ.get (i := 8) (d := 22) rfl (hd ⟨8, .data⟩ (by simp) rfl)
   have Dd : ρ (.tmp 22) = .slice ra T.rules.length rc := e1
   clear e1
   refine aa (v := .int .i64 T.rules.length) (w' := X) ?_ ⟨fun _ => hJ.put Ae.out dc (i := 9) (d := 23) rfl (Below.refl _ _) (rfl), fun e => by rw [al (by decide), Aa] at e; cases e⟩
   clear hd Ab hJ Ac hL Aa
   go_simp
 · intro ρ X L hc hf hL hd Ab Ac
   have Aa : L 16 = false := ak (by kernel_rfl) Ab (k := 10) (by simp) hL
   have hJ := Ac.1 Aa
   obtain ⟨c0, c2⟩ := Af.out X hJ.low
   obtain ⟨_, _, _, e1⟩ := hJ.get (i := 9) (d := 23) rfl (hd ⟨9, .data⟩ (by simp) rfl)
   have CP : ρ (.tmp 23) = .int .i64 T.rules.length := e1
   have Bv := BK X
   clear e1
   refine aa (v := sl X.heap.size T.rules.length) (w' := X.alloc (.cells (Array.replicate T.rules.length (.bool false)) 4)) ?_ ⟨fun _ => hJ.put Ae.out dc (i := 10) (d := 24) rfl (ac X _) (⟨X.heap.size, rfl, by unfold Fx cE; rw [heap_alloc_new]; simp [List.map_const'], Nat.le_refl _, by simp, hJ.low.size⟩), fun e => by rw [al (by decide), Aa] at e; cases e⟩
   clear hd Ab hJ Ac hL Aa
   go_simp
 · intro ρ X L hc hf hL hd Ab Ac
   have Aa : L 16 = false := ak (by kernel_rfl) Ab (k := 11) (by simp) hL
   have hJ := Ac.1 Aa
   obtain ⟨c0, c2⟩ := Af.out X hJ.low
   have k3 : ρ (.tmp 3) = ab bq := hJ.base (3, ab bq) (by simp)
   refine aa (v := ab bq) (w' := X) ?_ ⟨fun _ => hJ.put Ae.out dc (i := 11) (d := 25) rfl (Below.refl _ _) (rfl), fun e => by rw [al (by decide), Aa] at e; cases e⟩
   clear hd Ab hJ Ac hL Aa
   go_simp
 · intro ρ X L hc hf hL hd Ab Ac
   have Aa : L 16 = false := ak (by kernel_rfl) Ab (k := 12) (by simp) hL
   have hJ := Ac.1 Aa
   obtain ⟨c0, c2⟩ := Af.out X hJ.low
   obtain ⟨_, _, _, e1⟩ := hJ.get (i := 11) (d := 25) rfl (hd ⟨11, .data⟩ (by simp) rfl)
   have CR : ρ (.tmp 25) = ab bq := e1
   clear e1
   refine aa (v := .int .i64 T.lits) (w' := X) ?_ ⟨fun _ => hJ.put Ae.out dc (i := 12) (d := 26) rfl (Below.refl _ _) (rfl), fun e => by rw [al (by decide), Aa] at e; cases e⟩
   clear hd Ab hJ Ac hL Aa
   go_simp
 · intro ρ X L hc hf hL hd Ab Ac
   have Aa : L 16 = false := ak (by kernel_rfl) Ab (k := 13) (by simp) hL
   have hJ := Ac.1 Aa
   obtain ⟨c0, c2⟩ := Af.out X hJ.low
   obtain ⟨_, _, _, e1⟩ := hJ.get (i := 12) (d := 26) rfl (hd ⟨12, .data⟩ (by simp) rfl)
   have CZ : ρ (.tmp 26) = .int .i64 T.lits := e1
   have Bv := BS X
   clear e1
   refine aa (v := sl X.heap.size n) (w' := X.alloc (.cells (Array.replicate n (.int .i64 0)) 3)) ?_ ⟨fun _ => hJ.put Ae.out dc (i := 13) (d := 27) rfl (ac X _) (⟨X.heap.size, rfl, by unfold Fx; rw [heap_alloc_new, me], Nat.le_refl _, by simp, hJ.low.size⟩), fun e => by rw [al (by decide), Aa] at e; cases e⟩
   clear hd Ab hJ Ac hL Aa
   go_simp
 · intro ρ X L hc hf hL hd Ab Ac
   have Aa : L 16 = false := ak (by kernel_rfl) Ab (k := 14) (by simp) hL
   have hJ := Ac.1 Aa
   obtain ⟨c0, c2⟩ := Af.out X hJ.low
   obtain ⟨lo, hi, AX, Bx⟩ := hJ.at_
   have l2 : L 2 = true := hd ⟨2, .data⟩ (by simp) rfl
   have l6 : L 6 = true := hd ⟨6, .data⟩ (by simp) rfl
   have Cx : L 10 = true := hd ⟨10, .data⟩ (by simp) rfl
   have BQ : L 13 = true := hd ⟨13, .data⟩ (by simp) rfl
   obtain ⟨-, -, -, g0, e3, f3, a3, b3, n3⟩ := AX 2 16 rfl l2
   obtain ⟨-, -, -, g1, e6, f6, a6, b6, n6⟩ := AX 6 20 rfl l6
   obtain ⟨-, -, -, g2, e9, f9, a9, b9, n9⟩ := AX 10 24 rfl Cx
   obtain ⟨-, -, -, g3, BO, Ca, Dq, Dh, Cu⟩ := AX 13 27 rfl BQ
   have d1 := Bx 6 13 20 27 rfl rfl (by decide) l6 BQ
   have Di : ρ (.tmp 16) = sl g0 n := e3
   have CX : ρ (.tmp 20) = sl g1 T.rules.length := e6
   have CQ : ρ (.tmp 24) = sl g2 T.rules.length := e9
   have Dg : ρ (.tmp 27) = sl g3 n := BO
   refine aa (v := .agg #[sl g0 n, sl g1 T.rules.length, sl g2 T.rules.length, sl g3 n]) (w' := X) ?_ ⟨fun _ => hJ.put Ae.out dc (i := 14) (d := 28) rfl (Below.refl _ _) (⟨g0, g1, g2, g3, rfl, f3, f6, f9, Ca, ⟨n3, n6, n9, Cu⟩, by omega⟩), fun e => by rw [al (by decide), Aa] at e; cases e⟩
   clear hd Ab hJ Ac hL Aa AX Bx d1 e3 e6 e9 BO f3 f6 f9 Ca
   go_simp
 · intro ρ X L hc hf hL hd Ab Ac
   have Aa : L 16 = false := ak (by kernel_rfl) Ab (k := 15) (by simp) hL
   have hJ := Ac.1 Aa
   obtain ⟨c0, c2⟩ := Af.out X hJ.low
   refine aa (v := ab X.heap.size) (w' := X.alloc (.cells #[.slice none 0 0, .slice none 0 0, .slice none 0 0, .slice none 0 0] 178)) ?_ ⟨fun _ => hJ.put Ae.out dc (i := 15) (d := 7) rfl (ac X _) (⟨X.heap.size, [.slice none 0 0, .slice none 0 0, .slice none 0 0, .slice none 0 0], rfl, heap_alloc_new X _, rfl, hJ.low.size⟩), fun e => by rw [al (by decide), Aa] at e; cases e⟩
   clear hd Ab hJ Ac hL Aa
   go_simp
 · intro ρ X L hc hf hL hd Ab Ac
   have hJ := Ac.1 hL
   obtain ⟨_, _, _, g0, g1, g2, g3, Cc, f0, f1, f2, f3, ⟨m0, m1, m2, m3⟩, d1⟩ := hJ.get (i := 14) (d := 28) rfl (hd ⟨14, .data⟩ (by simp) rfl)
   obtain ⟨_, _, _, q, xs, e7, h0, Ct, hq⟩ := hJ.get (i := 15) (d := 7) rfl (hd ⟨15, .data⟩ (by simp) rfl)
   obtain ⟨t0, t1, t2, t3, rfl⟩ : ∃ t0 t1 t2 t3, xs = [t0, t1, t2, t3] := by
    match xs, Ct with
    | [t0, t1, t2, t3], _ => exact ⟨t0, t1, t2, t3, rfl⟩
   have Dp : ρ (.tmp 28) = .agg #[sl g0 n, sl g1 T.rules.length, sl g2 T.rules.length, sl g3 n] := Cc
   have k7 : ρ (.tmp 7) = ab q := e7
   have y0 := h0.get (i := 0) (v := t0) rfl
   have z0 := h0.frz 0
   have h1 := h0.set 0 (sl g0 n)
   have y1 := h1.get (i := 1) (v := t1) rfl
   have z1 := h1.frz 1
   have h2 := h1.set 1 (sl g1 T.rules.length)
   have y2 := h2.get (i := 2) (v := t2) rfl
   have z2 := h2.frz 2
   have h3 := h2.set 2 (sl g2 T.rules.length)
   have y3 := h3.get (i := 3) (v := t3) rfl
   have z3 := h3.frz 3
   have h4 := h3.set 3 (sl g3 n)
   have kp : ∀ {g t : Nat} {xs : List Value}, Fx g t xs X → t ≠ 178 → Fx g t xs ((((X.setCell ⟨q, 0, none⟩ (sl g0 n)).setCell ⟨q, 1, none⟩ (sl g1 T.rules.length)).setCell ⟨q, 2, none⟩ (sl g2 T.rules.length)).setCell ⟨q, 3, none⟩ (sl g3 n)) := fun hx ht => by
    have CG := an hx h0 ht
    exact hx.keep (by simp only [other_set CG])
   have AI : Hid (yZ T.rules.length n W0 (fK (fun s => ρ (.tmp s)) none undef) ((((X.setCell ⟨q, 0, none⟩ (sl g0 n)).setCell ⟨q, 1, none⟩ (sl g1 T.rules.length)).setCell ⟨q, 2, none⟩ (sl g2 T.rules.length)).setCell ⟨q, 3, none⟩ (sl g3 n))) := hide ⟨q, g0, g1, g2, g3, by rw [fC (by simp)]; exact k7, ⟨h4, kp f1 (by decide), kp f2 (by decide), kp f3 (by decide), vt (kp f0 (by decide)) m0, ⟨hq, m1, m2, m3⟩, d1, fun i v hv => by rw [List.getElem?_replicate] at hv; split at hv <;> cases hv; exact ⟨fun e => (by cases e), fun e => (by cases e)⟩⟩, ((((hJ.low.setCell (p := ⟨q, 0, none⟩) hq _).setCell (p := ⟨q, 1, none⟩) hq _).setCell (p := ⟨q, 2, none⟩) hq _).setCell (p := ⟨q, 3, none⟩) hq _)⟩
   refine bY (w' := ((((X.setCell ⟨q, 0, none⟩ (sl g0 n)).setCell ⟨q, 1, none⟩ (sl g1 T.rules.length)).setCell ⟨q, 2, none⟩ (sl g2 T.rules.length)).setCell ⟨q, 3, none⟩ (sl g3 n))) ?_ ⟨fun e => (by rw [aK] at e; cases e), fun _ => AI.out⟩
   clear hd Ab hJ Ac hL kp AI f0 f1 f2 f3 h1 h2 h3 h4 h0 Cc e7
   go_simp
 · intro c a' w' _ hE
   exact hE.elim
 · rintro ⟨Ad, df⟩ w' Ax AQ ⟨L, hL, hJ⟩ At
   simp only at AQ Ax
   subst AQ
   obtain ⟨q, us, ms, rr, op, e7, BU, BG⟩ := hJ.2 (hL 16 (by decide))
   have e7 : Ad.getD 7 undef = ab q := e7
   have Ay := eK 14 28 7 (by kernel_rfl) Ax At
   simp only [zs, Nat.reduceLT, Nat.reduceAdd, true_or, or_true, or_self, false_and, ne_eq, Nat.reduceEqDiff, not_false_eq_true, not_true_eq_false, and_self, and_false, if_true, if_false, e7] at Ay
   rw [Ay]
   clear Ay hJ hL At Ax e7 BX BK BS BV Af Ae
   generalize Ad.getD 14 undef = x14
   generalize Ad.getD 15 undef = x15
   generalize Ad.getD 16 undef = x16
   generalize Ad.getD 17 undef = x17
   generalize Ad.getD 18 undef = x18
   generalize Ad.getD 19 undef = x19
   generalize Ad.getD 20 undef = x20
   generalize Ad.getD 21 undef = x21
   generalize Ad.getD 22 undef = x22
   generalize Ad.getD 23 undef = x23
   generalize Ad.getD 24 undef = x24
   generalize Ad.getD 25 undef = x25
   generalize Ad.getD 26 undef = x26
   generalize Ad.getD 27 undef = x27
   generalize Ad.getD 28 undef = x28
   have Ak := hide BU
   have Au : Hid (Below W.heap.size W w') := hide (HDr.out.trans (BG.mono HDr.out.size))
   have Bw : W0.heap.size = W.heap.size := by rw [← Bu]; rfl
   rw [Bw] at Ak
   clear BU BG Bw HDr HX1d
   have c2 := (Aw.out.keep (Au.out.block _ Aw.out.lt)).get (i := 2) rfl
   go_wp2_with fail
   clear c2
   go_loopw [32] (fun x wr => ∃ (k : Nat) (H : Nat → List (List Int)) (vs : Nat → List Value), k ≤ T.rules.length ∧ x = .int .i64 k ∧ Hid (Gu T (kD d1) n k 0 H) ∧ Hid (Nw W.heap.size q us ms rr op n T.rules.length (fD T (kD d1) k) (opK T (kD d2) k) H vs wr) ∧ Hid (Below W.heap.size W wr)) (fun x _ => T.rules.length - (intOf x).toNat)
   case atStart => exact ⟨0, _, _, by omega, rfl, hide Gu.start, Ak, Au⟩
   case round =>
    clear Ak Au
    obtain ⟨k, H, vs, hk, rfl, HG, HN, HBr⟩ := hrel
    by_cases Az : k < T.rules.length
    · obtain ⟨r, hr⟩ := am Az
      obtain ⟨h0, h1⟩ := HP.out.head r (List.mem_of_getElem? hr)
      obtain ⟨hm, AD⟩ := Int.eq_ofNat_of_zero_le h0
      have AL : hm < n := by omega
      have AO : ag T k = (hm : Int) := by unfold ag; rw [Int.toNat_natCast, hr]; exact AD
      have BR : aB T (kD d1) k = (kD d1) r := by unfold aB; rw [Int.toNat_natCast, hr]; rfl
      have AM : aB T (kD d2) k = (kD d2) r := by unfold aB; rw [Int.toNat_natCast, hr]; rfl
      have AU : au T k = r.body := by unfold au; rw [Int.toNat_natCast, hr]; rfl
      have hR := TR.keep HBr.out.block BB.out
      obtain ⟨gr, go, bd, bp, rfl, BD, x0, x1, x2, -, BW, AK⟩ := eN hR.rules hr
      have CJ : r.body.length ≤ 16 := (HP.out.ok.rule r (List.mem_of_getElem? hr)).2.2.2.2.1
      have Cj : Hid r.body.Nodup := hide (cX (bK (by omega) (HP.out.ok.rule r (List.mem_of_getElem? hr)).2.2.2.2.2).2)
      have CI : Hid (∀ x ∈ r.body, 0 ≤ x ∧ x < (n : Int)) := hide (HP.out.body r (List.mem_of_getElem? hr))
      have CD : Hid (∀ X, Below W.heap.size W X → At1 X bd (aw r.body)) := hide fun X hX => by
       have h2 := TR.keep hX.block BB.out
       obtain ⟨g3, o3, b3, p3, e3, BL, -, -, x3, -, -, Cv⟩ := eN h2.rules hr
       cases e3
       have e4 : wr.cell? ⟨gr, go + k * 3 + 2, none⟩ = X.cell? ⟨gr, go + k * 3 + 2, none⟩ := (World.cell?_of_block (HBr.out.block gr BL)).trans (World.cell?_of_block (hX.block gr BL)).symm
       rw [x2, x3] at e4
       cases e4
       exact Cv.at1
      rw [AD] at x1
      have AC := ac wr (.cells #[.int .i64 r.kind, .int .i64 hm, .slice bd r.body.length bp] 114)
      have HQ : Hid (Fx wr.heap.size 114 [.int .i64 r.kind, .int .i64 hm, .slice bd r.body.length bp] (wr.alloc (.cells #[.int .i64 r.kind, .int .i64 hm, .slice bd r.body.length bp] 114))) := hide (heap_alloc_new wr _)
      have HNq := hide (HN.out.go AC)
      have HBq := hide (HBr.out.trans (AC.mono HBr.out.size))
      have HRr := hide hr
      have Bj := hide AO
      have BI := hide BR
      have Av := hide AM
      have Bd := hide AU
      have HL := hide Az
      clear hr h0 h1 AD hR AC AK HN HBr BD AO BR AM AU
      go_upto_region 5 with fail
      clear x0 x1 x2
      generalize wr.alloc (.cells #[.int .i64 r.kind, .int .i64 hm, .slice bd r.body.length bp] 114) = wq at *
      obtain ⟨qr, AS⟩ : ∃ qr, wr.heap.size = qr := ⟨_, rfl⟩
      rw [AS] at HQ ⊢
      clear AS
      have q0 := HQ.out.get (i := 0) rfl
      have q1 := HQ.out.get (i := 1) rfl
      have q2 := HQ.out.get (i := 2) rfl
      have CW := hide (H1.out wq r.kind (hm : Int) (.slice bd r.body.length bp))
      cases htk : d1 r.kind with
      | false =>
       have AH : Hid (kD d1 r = false) := hide htk
       have AR : Hid (fD T (kD d1) (k + 1) = fD T (kD d1) k) := hide (by rw [l5, BI.out, if_neg (by rw [AH.out]; decide)])
       have Al : Hid (opK T (kD d2) (k + 1) = opK T (kD d2) k) := hide (by rw [jY, Av.out, if_neg (by rw [show kD d2 r = false from HI.out _ AH.out]; decide)])
       rw [htk] at CW
       clear htk
       go_wp2_with (refine CW.out.mono ?_; rintro _ w3 ⟨rfl, hb⟩; have Ap := hide hb; clear hb)
       go_roundw
       case rel => exact ⟨k + 1, _, _, by have := HL.out; omega, by go_num, hide (HG.out.none HRr.out AH.out), hide (by rw [AR.out, Al.out]; exact HNq.out.go Ap.out), hide (HBq.out.trans (Ap.out.mono HBq.out.size))⟩
       case measure => have := HL.out; simp [intOf]; omega
      | true =>
       have AH : Hid (kD d1 r = true) := hide htk
       rw [htk] at CW
       clear htk
       have AR : Hid (fD T (kD d1) (k + 1) = ap (fD T (kD d1) k) k (r.body.length : Nat)) := hide (by rw [l5, BI.out, Bd.out, if_pos AH.out])
       go_upto_region 6 with (refine CW.out.mono ?_; rintro _ w3 ⟨rfl, hb⟩; have Ap := hide hb; clear hb)
       have AA := hide (HNq.out.go Ap.out)
       have AF := hide (HQ.out.keep (Ap.out.block _ HQ.out.lt))
       have BJ := hide (HBq.out.trans (Ap.out.mono HBq.out.size))
       clear HNq HQ HBq Ap q0 q1 q2 CW
       have s1 := AA.out.bx.get (i := 1) rfl
       have q2 := AF.out.get (i := 2) rfl
       have cm := AA.out.fm.get (bt HL.out)
       have zm := AA.out.fm.frz k
       have BC := hide (AA.out.setM HL.out (r.body.length : Nat))
       have By := hide (AF.out.keep (w' := w3.setCell ⟨ms, k, none⟩ (.int .i64 (r.body.length : Nat))) (other_set (an AF.out AA.out.fm (by decide))))
       have Cd := hide (BJ.out.setCell (p := ⟨ms, k, none⟩) AA.out.lo.2.1 (.int .i64 (r.body.length : Nat)))
       have q2' := By.out.get (i := 2) rfl
       obtain ⟨Bc, Bk⟩ : ∃ Bc, ap (fD T (kD d1) k) k (r.body.length : Nat) = Bc := ⟨_, rfl⟩
       rw [Bk] at BC AR
       clear AA AF BJ Bk
       go_wp2_with fail
       clear s1 q2 cm zm q2'
       go_loopw [51] (fun x wr => ∃ (j : Nat) (H : Nat → List (List Int)) (vs : Nat → List Value), j ≤ r.body.length ∧ x = .int .i64 j ∧ Hid (Gu T (kD d1) n k j H) ∧ Hid (Nw W.heap.size q us ms rr op n T.rules.length Bc (opK T (kD d2) k) H vs wr) ∧ Hid (Below W.heap.size W wr) ∧ Hid (Fx qr 114 [.int .i64 r.kind, .int .i64 hm, .slice bd r.body.length bp] wr)) (fun x _ => r.body.length - (intOf x).toNat)
       case atStart => exact ⟨0, _, _, by omega, rfl, HG, BC, Cd, By⟩
       case round =>
        clear HG BC Cd By
        rename World => wr3
        obtain ⟨j, H, vs, hj, rfl, HG, HN, HBq, HQ⟩ := hrel
        by_cases hjl : j < r.body.length
        · obtain ⟨x0, hx⟩ := am hjl
          obtain ⟨y0, y1⟩ := CI.out x0 (List.mem_of_getElem? hx)
          obtain ⟨x, rfl⟩ := Int.eq_ofNat_of_zero_le y0
          have Bh : x < n := by omega
          obtain ⟨gx, ox, rfl, cx⟩ := (CD.out wr3 HBq.out).get hx
          have HXx := hide hx
          have Cg : Hid (∀ (c i : Nat) (l : List Int), c < 1 → (H c)[i]? = some l → l.length ≤ 4096) := hide fun c i l hc hl => HG.out.len (by have := HL.out; omega) (z := i) (by rw [← (show c = 0 by omega)]; exact hl)
          clear hx y0 y1
          go_upto_region 10 with fail
          have AJ := (Below.refl wr3.heap.size wr3).drew
          have HNd0 := hide (HN.out.go AJ)
          have HQd0 := hide (HQ.out.keep (AJ.block _ HQ.out.lt))
          have HBd0 := hide (HBq.out.trans (AJ.mono HBq.out.size))
          obtain ⟨wd, Bz⟩ : ∃ wd, wr3.drew = wd := ⟨_, rfl⟩
          rw [Bz] at HNd0 HQd0 HBd0
          obtain ⟨l0, An, Ao, Bm, BM, Bb, AB⟩ := HNd0.out.h3.at (c := 0) (by omega) (show x < n from Bh)
          have Bb : wd.cell? ⟨us, x, none⟩ = some (.slice An l0.length Ao) := Bb
          have CK : l0.length ≤ 4096 := Cg.out 0 _ _ (by omega) Bm
          have AN := ac wd (.cells #[.int .i64 k] 3)
          have BA : W.heap.size ≤ wd.heap.size := HBd0.out.size
          obtain ⟨As, Am, w2, BP, Bf, Ai, Bp, Ce⟩ := run_append_lies (P := Tryz.prog) (wd.alloc (.cells #[.int .i64 k] 3)) 26 26 W.heap.size 3 iI _ 1 8 Tryz.underlying26 Bi Bq Bl Bs rfl (by decide) (.slice An l0.length Ao) l0.length (aw l0) (owns_keep AB fun g hg => AN.block g (aE AB hg)) ⟨wd.heap.size, 0, none⟩ 1 1 [.int .i64 k] rfl (World.news_of_block (cs := [.int .i64 k].toArray) (t := 3) (fr := (0, 0)) (heap_alloc_new wd (.cells #[.int .i64 k] 3))) (by simp [Value.oneCell']) (by decide) (by unfold maxLen; omega) (by omega) (by simp; omega) (wd.heap.size + 1) (by simp)
          have Cb := hide BP
          have Aq : ∀ k, k < wd.heap.size → Value.ownBlock (.slice An l0.length Ao) ≠ some k → w2.heap[k]? = wd.heap[k]? := fun k hk hn => (Ai.block k (by simp; omega) fun e => hn e.symm).trans (AN.block k hk)
          have AY := ay AB (HNd0.out.h3.fx 0 (by omega)) (by decide)
          have AZ := ay AB HQd0.out (by decide)
          have Bo := ay AB HNd0.out.bx (by decide)
          obtain ⟨w3, AV⟩ : ∃ w3, w2.setCell ⟨us, x, none⟩ (.slice (some ⟨As, 0, none⟩) (l0.length + 1) Am) = w3 := ⟨_, rfl⟩
          have BZ := hide AV
          have HN0a : Hid (Nw W.heap.size q us ms rr op n T.rules.length Bc (opK T (kD d2) k) (up H 0 ((H 0).set x (l0 ++ [(k : Int)]))) (up vs 0 ((vs 0).set x (.slice (some ⟨As, 0, none⟩) (l0.length + 1) Am))) w3) := hide (by rw [← AV]; exact HNd0.out.add (c := 0) (by omega) Bm BM Bf Aq (by rcases Bp with h | h; exact .inl h; exact .inr (by omega)))
          have AF : Hid (Fx qr 114 [.int .i64 r.kind, .int .i64 hm, .slice (some ⟨gx, ox, none⟩) r.body.length bp] w3) := hide (by rw [← AV]; exact (HQd0.out.keep (Aq _ HQd0.out.lt AZ)).keep (other_set (an HQd0.out (HNd0.out.h3.fx 0 (by omega)) (by decide))))
          have Ap : Hid (Below W.heap.size W w3) := hide (by rw [← AV]; exact (HBd0.out.trans (show Below W.heap.size wd w2 from (AN.mono BA).trans ⟨Ai.os, Ai.tape, Ai.output, Ai.size, fun k hk => Ai.block k (by simp; omega) fun e => by have := (AB.lt k e.symm).1; omega⟩)).setCell (p := ⟨us, x, none⟩) (HNd0.out.h3.lo 0 (by omega)) (.slice (some ⟨As, 0, none⟩) (l0.length + 1) Am))
          have Ba : ∀ {a : Addr} {v : Value}, wd.cell? a = some v → Value.ownBlock (.slice An l0.length Ao) ≠ some a.block → ∀ X, X = wd ∨ X = wd.alloc (.cells #[.int .i64 k] 3) ∨ X = w2 → X.cell? a = some v := fun ha hn X hX => by
           have Az := World.block_lt_of_cell? wd _ ha
           rcases hX with rfl | rfl | rfl
           · exact ha
           · exact eH ha AN
           · exact (World.cell?_of_block (Aq _ Az hn)).trans ha
          have LH := hide (Ba (HNd0.out.bx.get (i := 0) (v := sl us n) rfl) Bo)
          have LQ := hide (Ba (HQd0.out.get (i := 1) rfl) AZ)
          have LR := hide (Ba Bb AY)
          have q1 : w2.cell? ⟨us, x, none⟩ = some (.slice An l0.length Ao) := LR.out w2 (.inr (.inr rfl))
          have q2 : w2.frozen? ⟨us, x, none⟩ = false := ((HNd0.out.h3.fx 0 (by omega)).keep (Aq _ (HNd0.out.h3.fx 0 (by omega)).lt AY)).frz x
          have Aj : Hid (gu ([some (55, .pointer (some ⟨q, 0, none⟩)), some (56, sl us n), some (57, .int .i64 x), some (58, .pointer (some ⟨q, 0, none⟩)), some (59, sl us n), some (60, .int .i64 x), some (61, .pointer (some ⟨us, x, none⟩)), some (62, .slice An l0.length Ao), some (63, .int .i64 k), some (64, .slice (some ⟨wd.heap.size, 0, none⟩) 1 1), some (65, .slice (some ⟨As, 0, none⟩) (l0.length + 1) Am), some (66, .pointer (some ⟨us, x, none⟩)), none].map fun p : Option (Nat × Value) => p.map Prod.fst) [(7, ab q), (11, .int .i64 x), (8, .int .i64 k)] = true) := hide rfl
          clear HN HQ HBq Bb Ai Bf BP AZ Bo AY BM Bp Ce Ba Aq AN AB HNd0 HQd0 HBd0 BA AJ AV
          refine bW gl (Jt [some (55, .pointer (some ⟨q, 0, none⟩)), some (56, sl us n), some (57, .int .i64 x), some (58, .pointer (some ⟨q, 0, none⟩)), some (59, sl us n), some (60, .int .i64 x), some (61, .pointer (some ⟨us, x, none⟩)), some (62, .slice An l0.length Ao), some (63, .int .i64 k), some (64, .slice (some ⟨wd.heap.size, 0, none⟩) 1 1), some (65, .slice (some ⟨As, 0, none⟩) (l0.length + 1) Am), some (66, .pointer (some ⟨us, x, none⟩)), none] [(7, ab q), (11, .int .i64 x), (8, .int .i64 k)] (fV 9 10 12 wd (wd.alloc (.cells #[.int .i64 k] 3)) w2 w3)) (by kernel_rfl) (by kernel_rfl) ?_ (cj ⟨?_, ?_, ?_, ?_, ?_, ?_, ?_, ?_, ?_, ?_, ?_, ?_, ?_, trivial⟩) ?_ ?_
          · exact ⟨fun p hp => by simp at hp; rcases hp with rfl | rfl | rfl <;> rfl, fun i d v _ hL => (by cases hL), Bz⟩
          · intro ρ X L hc hf hL hd Ab hJ
            have k7 : ρ (.tmp 7) = ab q := hJ.base (7, ab q) (by simp)
            refine aa (v := .pointer (some ⟨q, 0, none⟩)) (w' := X) ?_ (hJ.put Aj.out rfl (by rw [ao (by decide) (by decide) (by decide)]; exact hJ.wd))
            clear hd Ab hJ hL
            go_simp
          · intro ρ X L hc hf hL hd Ab hJ
            have Do : ρ (.tmp 55) = .pointer (some ⟨q, 0, none⟩) := hJ.vals 0 55 (.pointer (some ⟨q, 0, none⟩)) rfl (hd ⟨0, .data⟩ (by simp) rfl)
            have Ah : L 12 = false := ak (by kernel_rfl) Ab (k := 1) (by simp) hL
            have hx := LH.out X (br hJ.wd Ah)
            clear Ah
            refine aa (v := sl us n) (w' := X) ?_ (hJ.put Aj.out rfl (by rw [ao (by decide) (by decide) (by decide)]; exact hJ.wd))
            clear hd Ab hJ hL
            go_simp
          · intro ρ X L hc hf hL hd Ab hJ
            have CE : ρ (.tmp 11) = .int .i64 x := hJ.base (11, .int .i64 x) (by simp)
            refine aa (v := .int .i64 x) (w' := X) ?_ (hJ.put Aj.out rfl (by rw [ao (by decide) (by decide) (by decide)]; exact hJ.wd))
            clear hd Ab hJ hL
            go_simp
          · intro ρ X L hc hf hL hd Ab hJ
            have k7 : ρ (.tmp 7) = ab q := hJ.base (7, ab q) (by simp)
            refine aa (v := .pointer (some ⟨q, 0, none⟩)) (w' := X) ?_ (hJ.put Aj.out rfl (by rw [ao (by decide) (by decide) (by decide)]; exact hJ.wd))
            clear hd Ab hJ hL
            go_simp
          · intro ρ X L hc hf hL hd Ab hJ
            have Dk : ρ (.tmp 58) = .pointer (some ⟨q, 0, none⟩) := hJ.vals 3 58 (.pointer (some ⟨q, 0, none⟩)) rfl (hd ⟨3, .data⟩ (by simp) rfl)
            have Ah : L 12 = false := ak (by kernel_rfl) Ab (k := 4) (by simp) hL
            have hx := LH.out X (br hJ.wd Ah)
            clear Ah
            refine aa (v := sl us n) (w' := X) ?_ (hJ.put Aj.out rfl (by rw [ao (by decide) (by decide) (by decide)]; exact hJ.wd))
            clear hd Ab hJ hL
            go_simp
          · intro ρ X L hc hf hL hd Ab hJ
            have CE : ρ (.tmp 11) = .int .i64 x := hJ.base (11, .int .i64 x) (by simp)
            refine aa (v := .int .i64 x) (w' := X) ?_ (hJ.put Aj.out rfl (by rw [ao (by decide) (by decide) (by decide)]; exact hJ.wd))
            clear hd Ab hJ hL
            go_simp
          · intro ρ X L hc hf hL hd Ab hJ
            have CU : ρ (.tmp 59) = sl us n := hJ.vals 4 59 (sl us n) rfl (hd ⟨4, .data⟩ (by simp) rfl)
            have Dn : ρ (.tmp 60) = .int .i64 x := hJ.vals 5 60 (.int .i64 x) rfl (hd ⟨5, .data⟩ (by simp) rfl)
            refine aa (v := .pointer (some ⟨us, x, none⟩)) (w' := X) ?_ (hJ.put Aj.out rfl (by rw [ao (by decide) (by decide) (by decide)]; exact hJ.wd))
            clear hd Ab hJ hL
            go_simp
          · intro ρ X L hc hf hL hd Ab hJ
            have De : ρ (.tmp 61) = .pointer (some ⟨us, x, none⟩) := hJ.vals 6 61 (.pointer (some ⟨us, x, none⟩)) rfl (hd ⟨6, .data⟩ (by simp) rfl)
            have Ah : L 12 = false := ak (by kernel_rfl) Ab (k := 7) (by simp) hL
            have hx := LR.out X (br hJ.wd Ah)
            clear Ah
            refine aa (v := .slice An l0.length Ao) (w' := X) ?_ (hJ.put Aj.out rfl (by rw [ao (by decide) (by decide) (by decide)]; exact hJ.wd))
            clear hd Ab hJ hL
            go_simp
          · intro ρ X L hc hf hL hd Ab hJ
            have k8 : ρ (.tmp 8) = .int .i64 k := hJ.base (8, .int .i64 k) (by simp)
            refine aa (v := .int .i64 k) (w' := X) ?_ (hJ.put Aj.out rfl (by rw [ao (by decide) (by decide) (by decide)]; exact hJ.wd))
            clear hd Ab hJ hL
            go_simp
          · intro ρ X L hc hf hL hd Ab hJ
            have CY : ρ (.tmp 63) = .int .i64 k := hJ.vals 8 63 (.int .i64 k) rfl (hd ⟨8, .data⟩ (by simp) rfl)
            have AE : L 10 = false := by cases e : L 10 with | false => rfl | true => (have := Ab 10 _ rfl e ⟨9, .data⟩ (by simp) rfl; rw [show (⟨9, .data⟩ : Edge).on = 9 from rfl] at this; rw [hL] at this; cases this)
            have Ah : L 12 = false := ak (by kernel_rfl) Ab (k := 9) (by simp) hL
            have hX := hJ.wd.trans (kz hL AE Ah)
            refine aa (v := .slice (some ⟨wd.heap.size, 0, none⟩) 1 1) (w' := wd.alloc (.cells #[.int .i64 k] 3)) ?_ (hJ.put Aj.out rfl ((eP aK (by rw [al (by decide)]; exact AE) (by rw [al (by decide)]; exact Ah)).symm))
            subst hX
            clear hd Ab hJ hL AE Ah
            go_simp
          · intro ρ X L hc hf hL hd Ab hJ
            have Ck : ρ (.tmp 62) = .slice An l0.length Ao := hJ.vals 7 62 (.slice An l0.length Ao) rfl (hd ⟨7, .data⟩ (by simp) rfl)
            have Cw : ρ (.tmp 64) = .slice (some ⟨wd.heap.size, 0, none⟩) 1 1 := hJ.vals 9 64 (.slice (some ⟨wd.heap.size, 0, none⟩) 1 1) rfl (hd ⟨9, .data⟩ (by simp) rfl)
            have CF : L 9 = true := hd ⟨9, .data⟩ (by simp) rfl
            have Ah : L 12 = false := ak (by kernel_rfl) Ab (k := 10) (by simp) hL
            have hX := hJ.wd.trans (eP CF hL Ah)
            refine fi _ _ 26 rfl Ck Cw (u := .slice (some ⟨As, 0, none⟩) (l0.length + 1) Am) (w' := w2) (by rw [hX]; exact Cb.out) (hJ.put Aj.out rfl ((eU aK (by rw [al (by decide)]; exact Ah)).symm))
          · intro ρ X L hc hf hL hd Ab hJ
            have Da : ρ (.tmp 56) = sl us n := hJ.vals 1 56 (sl us n) rfl (hd ⟨1, .data⟩ (by simp) rfl)
            have CS : ρ (.tmp 57) = .int .i64 x := hJ.vals 2 57 (.int .i64 x) rfl (hd ⟨2, .data⟩ (by simp) rfl)
            refine aa (v := .pointer (some ⟨us, x, none⟩)) (w' := X) ?_ (hJ.put Aj.out rfl (by rw [ao (by decide) (by decide) (by decide)]; exact hJ.wd))
            clear hd Ab hJ hL
            go_simp
          · intro ρ X L hc hf hL hd Ab hJ
            have CV : ρ (.tmp 66) = .pointer (some ⟨us, x, none⟩) := hJ.vals 11 66 (.pointer (some ⟨us, x, none⟩)) rfl (hd ⟨11, .data⟩ (by simp) rfl)
            have Dl : ρ (.tmp 65) = .slice (some ⟨As, 0, none⟩) (l0.length + 1) Am := hJ.vals 10 65 (.slice (some ⟨As, 0, none⟩) (l0.length + 1) Am) rfl (hd ⟨10, .data⟩ (by simp) rfl)
            have AE : L 10 = true := hd ⟨10, .data⟩ (by simp) rfl
            have hX := hJ.wd.trans (eU AE hL)
            refine bY (w' := w3) ?_ (hJ.last rfl ((eR aK).symm))
            subst hX
            clear hd Ab hJ hL AE
            rw [← BZ.out]
            go_simp
          · intro c a' w' _ hE
            exact hE.elim
          · rintro ⟨Ad, df⟩ w' Ax AQ ⟨L, hL, hJ⟩ At
            simp only at AQ Ax
            subst AQ
            have Cn : w3 = w' := (hJ.wd.trans (eR (hL 12 (by decide)))).symm
            subst Cn
            have Ay := dP 55 66 (by kernel_rfl) Ax At
            simp only [zr, Nat.reduceLT, Nat.reduceAdd, true_or, or_true, or_self, if_true, if_false] at Ay
            rw [Ay]
            clear Ay hJ hL At Ax Aj Cb BZ LH LQ LR q1 q2 Bz
            generalize Ad.getD 55 undef = x55
            generalize Ad.getD 56 undef = x56
            generalize Ad.getD 57 undef = x57
            generalize Ad.getD 58 undef = x58
            generalize Ad.getD 59 undef = x59
            generalize Ad.getD 60 undef = x60
            generalize Ad.getD 61 undef = x61
            generalize Ad.getD 62 undef = x62
            generalize Ad.getD 63 undef = x63
            generalize Ad.getD 64 undef = x64
            generalize Ad.getD 65 undef = x65
            generalize Ad.getD 66 undef = x66
            have Bg := hide (HG.out.add HRr.out Cj.out HXx.out Bh Bm)
            go_wp2_with fail
            go_roundw
            case rel => exact ⟨j + 1, _, _, by omega, by go_num, Bg, HN0a, Ap, AF⟩
            case measure => simp [intOf]; omega
        · have Bg := hide (HG.out.next HRr.out AH.out (by omega))
          have q0 := HQ.out.get (i := 0) rfl
          have q1 := HQ.out.get (i := 1) rfl
          have q2 := HQ.out.get (i := 2) rfl
          have CL := hide (H2.out wr3 r.kind (hm : Int) (.slice bd r.body.length bp))
          cases htk : d2 r.kind with
          | false =>
           have Ar : Hid ((kD d2) r = false) := hide htk
           rw [htk] at CL
           clear htk
           have Al : Hid (opK T (kD d2) (k + 1) = opK T (kD d2) k) := hide (by rw [jY, Av.out, if_neg (by rw [Ar.out]; decide)])
           go_wp2_with (refine CL.out.mono ?_; rintro _ w5 ⟨rfl, hb⟩; have Ag := hide hb; clear hb)
           go_roundw
           case rel => exact ⟨k + 1, _, _, by have := HL.out; omega, by go_num, Bg, hide (by rw [AR.out, Al.out]; exact HN.out.go Ag.out), hide (HBq.out.trans (Ag.out.mono HBq.out.size))⟩
           case measure => have := HL.out; simp [intOf]; omega
          | true =>
           have Ar : Hid ((kD d2) r = true) := hide htk
           rw [htk] at CL
           clear htk
           have Al : Hid (opK T (kD d2) (k + 1) = ap (opK T (kD d2) k) hm (aD (opK T (kD d2) k hm))) := hide (by rw [jY, Av.out, if_pos Ar.out, Bj.out])
           go_upto_region 13 with (refine CL.out.mono ?_; rintro _ w5 ⟨rfl, hb⟩; have Ag := hide hb; clear hb)
           have AG := hide (HN.out.go Ag.out)
           have BE := hide (HQ.out.keep (Ag.out.block _ HQ.out.lt))
           have BH := hide (HBq.out.trans (Ag.out.mono HBq.out.size))
           clear HN HQ HBq Ag q0 q1 q2 CL
           have s3 := AG.out.bx.get (i := 3) rfl
           have q1 := BE.out.get (i := 1) rfl
           have co := AG.out.fo.get (bt AL)
           have zo := AG.out.fo.frz hm
           obtain ⟨v1, BY⟩ : ∃ v1, IntKind.i64.wrap (opK T (kD d2) k hm + 1) = v1 := ⟨_, rfl⟩
           have HV : Hid (aD (opK T (kD d2) k hm) = v1) := hide BY
           have Cz := hide (AG.out.setO AL v1)
           have Ci := hide (BH.out.setCell (p := ⟨op, hm, none⟩) AG.out.lo.2.2.2 (.int .i64 v1))
           generalize opK T (kD d2) k hm = xo at co BY
           clear AG BE BH
           go_wp2_with fail
           go_roundw
           case rel => exact ⟨k + 1, _, _, by have := HL.out; omega, by go_num, Bg, hide (by rw [AR.out, Al.out, HV.out]; exact Cz.out), Ci⟩
           case measure => have := HL.out; simp [intOf]; omega
    · have AT : k = T.rules.length := by omega
      have Ak : Hid (Nw W.heap.size q us ms rr op n T.rules.length (fD T (kD d1) T.rules.length) (eF T (kD d2) (opK T (kD d2) T.rules.length) 0) H vs wr) := hide (by have := HN.out; rw [AT] at this; exact this)
      have Cr : Hid (Gu T (kD d1) n T.rules.length 0 H) := hide (by have := HG.out; rw [AT] at this; exact this)
      have Au := hide HBr.out
      clear HN HG HBr AT
      have c2 := (Aw.out.keep (Au.out.block _ Aw.out.lt)).get (i := 2) rfl
      go_wp2_with fail
      clear c2
      go_loopw [83] (fun x wr => ∃ k : Nat, k ≤ T.rules.length ∧ x = .int .i64 k ∧ Hid (Nw W.heap.size q us ms rr op n T.rules.length (fD T (kD d1) T.rules.length) (eF T (kD d2) (opK T (kD d2) T.rules.length) k) H vs wr) ∧ Hid (Below W.heap.size W wr)) (fun x _ => T.rules.length - (intOf x).toNat)
      case atStart => exact ⟨0, by omega, rfl, Ak, Au⟩
      case round =>
       clear Ak Au
       rename World => wr5
       obtain ⟨k, hk, rfl, HN, HBr⟩ := hrel
       by_cases Az : k < T.rules.length
       · obtain ⟨r, hr⟩ := am Az
         obtain ⟨h0, h1⟩ := HP.out.head r (List.mem_of_getElem? hr)
         obtain ⟨hm, AD⟩ := Int.eq_ofNat_of_zero_le h0
         have AL : hm < n := by omega
         have AO : ag T k = (hm : Int) := by unfold ag; rw [Int.toNat_natCast, hr]; exact AD
         have AM : aB T (kD d2) k = (kD d2) r := by unfold aB; rw [Int.toNat_natCast, hr]; rfl
         have AU : au T k = r.body := by unfold au; rw [Int.toNat_natCast, hr]; rfl
         have hR := TR.keep HBr.out.block BB.out
         obtain ⟨gr, go, bd, bp, rfl, BD, x0, x1, x2, -, BW, AK⟩ := eN hR.rules hr
         rw [AD] at x1
         have AC := ac wr5 (.cells #[.int .i64 r.kind, .int .i64 hm, .slice bd r.body.length bp] 114)
         have HQ : Hid (Fx wr5.heap.size 114 [.int .i64 r.kind, .int .i64 hm, .slice bd r.body.length bp] (wr5.alloc (.cells #[.int .i64 r.kind, .int .i64 hm, .slice bd r.body.length bp] 114))) := hide (heap_alloc_new wr5 _)
         have HNq := hide (HN.out.go AC)
         have HBq := hide (HBr.out.trans (AC.mono HBr.out.size))
         have Bj := hide AO
         have Av := hide AM
         have Bd := hide AU
         have HL := hide Az
         clear hr h0 h1 AD hR AC AK HN HBr BD AO AM AU
         go_upto_region 18 with fail
         clear x0 x1 x2
         generalize wr5.alloc (.cells #[.int .i64 r.kind, .int .i64 hm, .slice bd r.body.length bp] 114) = wq at *
         obtain ⟨qr, AS⟩ : ∃ qr, wr5.heap.size = qr := ⟨_, rfl⟩
         rw [AS] at HQ ⊢
         clear AS
         have q0 := HQ.out.get (i := 0) rfl
         have q1 := HQ.out.get (i := 1) rfl
         have q2 := HQ.out.get (i := 2) rfl
         have CL := hide (H2.out wq r.kind (hm : Int) (.slice bd r.body.length bp))
         cases htk : d2 r.kind with
         | false =>
          have Ar : Hid ((kD d2) r = false) := hide htk
          have Al : Hid (eF T (kD d2) (opK T (kD d2) T.rules.length) (k + 1) = eF T (kD d2) (opK T (kD d2) T.rules.length) k) := hide (by rw [kH, Av.out, Ar.out]; rfl)
          rw [htk] at CL
          clear htk
          go_wp2_with (refine CL.out.mono ?_; rintro _ w5 ⟨rfl, hb⟩; have Ag := hide hb; clear hb)
          go_roundw
          case rel => exact ⟨k + 1, by have := HL.out; omega, by go_num, hide (by rw [Al.out]; exact HNq.out.go Ag.out), hide (HBq.out.trans (Ag.out.mono HBq.out.size))⟩
          case measure => have := HL.out; simp [intOf]; omega
         | true =>
          have Ar : Hid ((kD d2) r = true) := hide htk
          rw [htk] at CL
          clear htk
          by_cases he : r.body.length = 0
          · have AP : r.body.isEmpty = true := by rw [List.isEmpty_iff]; exact List.eq_nil_of_length_eq_zero he
            have Al : Hid (eF T (kD d2) (opK T (kD d2) T.rules.length) (k + 1) = ap (eF T (kD d2) (opK T (kD d2) T.rules.length) k) hm 0) := hide (by rw [kH, Av.out, Ar.out, Bd.out, AP, Bj.out]; rfl)
            have BF : ((r.body.length : Int) == 0) = true := by simpa using he
            have Be : Hid (∀ X, Below wq.heap.size wq X → X.cell? ⟨qr, 1, none⟩ = some (.int .i64 hm) ∧ X.cell? ⟨qr, 2, none⟩ = some (.slice bd r.body.length bp) ∧ X.cell? ⟨q, 3, none⟩ = some (sl op n) ∧ X.cell? ⟨op, hm, none⟩ = some (.int .i64 (eF T (kD d2) (opK T (kD d2) T.rules.length) k hm)) ∧ X.frozen? ⟨op, hm, none⟩ = false) := hide fun X hX => by
             have a := HQ.out.keep (hX.block _ HQ.out.lt)
             have b := HNq.out.go hX
             exact ⟨a.get (i := 1) rfl, a.get (i := 2) rfl, b.bx.get (i := 3) rfl, b.fo.get (bt AL), b.fo.frz hm⟩
            clear AP
            rw [he] at *
            go_wp2_with (refine CL.out.mono ?_; rintro _ w5 ⟨rfl, hb⟩; have Ag := hide hb; obtain ⟨k1, k2, k3, k4, k5⟩ := Be.out w5 hb; clear hb)
            go_roundw
            case rel => exact ⟨k + 1, by have := HL.out; omega, by go_num, hide (by rw [Al.out]; exact (HNq.out.go Ag.out).setO AL 0), hide ((HBq.out.trans (Ag.out.mono HBq.out.size)).setCell (p := ⟨op, hm, none⟩) HNq.out.lo.2.2.2 (.int .i64 0))⟩
            case measure => have := HL.out; simp [intOf]; omega
          · have AP : r.body.isEmpty = false := by cases hb : r.body with
             | nil => rw [hb] at he; simp at he
             | cons _ _ => rfl
            have Al : Hid (eF T (kD d2) (opK T (kD d2) T.rules.length) (k + 1) = eF T (kD d2) (opK T (kD d2) T.rules.length) k) := hide (by rw [kH, Av.out, Ar.out, Bd.out, AP]; rfl)
            have BF : ((r.body.length : Int) == 0) = false := by simpa using he
            have CB : (r.body.length == 0) = false := by simpa using he
            have Be : Hid (∀ X, Below wq.heap.size wq X → X.cell? ⟨qr, 2, none⟩ = some (.slice bd r.body.length bp)) := hide fun X hX => (HQ.out.keep (hX.block _ HQ.out.lt)).get (i := 2) rfl
            obtain ⟨bl, Cf⟩ : ∃ bl, r.body.length = bl := ⟨_, rfl⟩
            rw [Cf] at Be he BF CB CL q2 BW
            clear AP
            go_wp2_with (refine CL.out.mono ?_; rintro _ w5 ⟨rfl, hb⟩; have Ag := hide hb; have k2 := Be.out w5 hb; clear hb)
            go_roundw
            case rel => exact ⟨k + 1, by have := HL.out; omega, by go_num, hide (by rw [Al.out]; exact HNq.out.go Ag.out), hide (HBq.out.trans (Ag.out.mono HBq.out.size))⟩
            case measure => have := HL.out; simp [intOf]; omega
       · have AT : k = T.rules.length := by omega
         have Ak : Hid (Nw W.heap.size q us ms rr op n T.rules.length (fD T (kD d1) T.rules.length) (eF T (kD d2) (opK T (kD d2) T.rules.length) T.rules.length) H vs wr5) := hide (by have := HN.out; rw [AT] at this; exact this)
         clear HN
         have c0 := Ak.out.bx.get (i := 0) rfl
         have c1 := Ak.out.bx.get (i := 1) rfl
         have c2 := Ak.out.bx.get (i := 2) rfl
         have c3 := Ak.out.bx.get (i := 3) rfl
         have HX2r := hide (AW.out.keep (HBr.out.block _ AW.out.lt))
         have CM : bq + 1 < W.heap.size := AW.out.lt
         go_upto_region 21 with fail
         refine wp_region_lit ?_
         refine wpList_plain rfl fun K hK => ?_
         go_simp
         refine hK _ _ ?_
         clear hK
         refine wpList_plain rfl fun K hK => ?_
         refine wp_store_row 178 _ _ rfl (bq + 1) _ rfl rfl _ _ HX2r.out (by kernel_rfl) rfl (by simp [sl, Value.oneCell']) ?_
         refine hK _ _ ?_
         clear hK
         have AI := hide (setRow_heap wr5 (bq + 1) _ #[sl us n, sl ms T.rules.length, sl rr T.rules.length, sl op n] _ _ HX2r.out)
         have Cq := hide (Ak.out.far (w' := wr5.setRow (bq + 1) #[sl us n, sl ms T.rules.length, sl rr T.rules.length, sl op n]) (fun g hg _ => setRow_other _ _ _ _ (by omega)) HB.out.size)
         have Cl := hide (kZ (b := bq + 1) (HB.out.trans (HBr.out.mono HB.out.size)) (by rw [CC.out]; omega) #[sl us n, sl ms T.rules.length, sl rr T.rules.length, sl op n])
         generalize wr5.setRow (bq + 1) #[sl us n, sl ms T.rules.length, sl rr T.rules.length, sl op n] = Y at *
         clear Ak HBr c0 c1 c2 c3 HX2r AW
         go_wp2_with fail
         refine bodyPost_ret (v := .agg #[sl us n, sl ms T.rules.length, sl rr T.rules.length, sl op n]) (yM rfl AI.out) rfl ?_
         exact ⟨q, us, ms, rr, op, vs, H, rfl, Cq.out, fun z hz => by have := Cr.out.u z hz; simpa using this, Cl.out⟩
theorem nB {w : World} {T : Th} {F : List Int} {n : Nat} {fa ra ba : Option Addr} {fc rc bc : Nat} (h : TA w.heap.size w T fa fc ra rc ba bc) (hp : Pf T F n) :
    Calls Tryz.prog 173 #[tv T fa fc ra rc ba bc, .func (.func 174) #[] #[], .func (.func 174) #[] #[]] w fun o w' => ∃ q us ms rr op vs H, o = .returned (.agg (rT us ms rr op n T.rules.length).toArray) ∧ Nw w.heap.size q us ms rr op n T.rules.length (fD T kS T.rules.length) (eF T kS (opK T kS T.rules.length) T.rules.length) H vs w' ∧ (∀ z : Nat, z < n → (H 0).getD z [] = dw T kS T.rules.length z) ∧ Below w.heap.size w w' :=
 lj (d1 := fun k => decide (k = 1)) (d2 := fun k => decide (k = 1)) (fun _ _ _ _ => gt) (fun _ _ _ _ => gt) (fun _ e => e) (enters_go Tryz.func174 (by kernel_rfl) (by kernel_rfl)) (enters_go Tryz.func174 (by kernel_rfl) (by kernel_rfl)) h hp
theorem qm {w : World} {T : Th} {F : List Int} {n : Nat} {fa ra ba : Option Addr} {fc rc bc : Nat} (h : TA w.heap.size w T fa fc ra rc ba bc) (hp : Pf T F n) :
    Calls Tryz.prog 173 #[tv T fa fc ra rc ba bc, .func (.func 175) #[] #[], .func (.func 176) #[] #[]] w fun o w' => ∃ q us ms rr op vs H, o = .returned (.agg (rT us ms rr op n T.rules.length).toArray) ∧ Nw w.heap.size q us ms rr op n T.rules.length (fD T kA T.rules.length) (eF T kT (opK T kT T.rules.length) T.rules.length) H vs w' ∧ (∀ z : Nat, z < n → (H 0).getD z [] = dw T kA T.rules.length z) ∧ Below w.heap.size w w' :=
 lj (d1 := fun _ => true) (d2 := fun k => !decide (k = 3)) (fun _ _ _ _ => ub) (fun _ _ _ _ => fA) (fun _ e => by cases e) (enters_go Tryz.func175 (by kernel_rfl) (by kernel_rfl)) (enters_go Tryz.func176 (by kernel_rfl) (by kernel_rfl)) h hp
end Go.Proofs.YtmlhcncagdfjfaaGreat.Fa
