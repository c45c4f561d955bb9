import Derived.Test.YtmlhcncagdfjfaaGreatNob
set_option maxRecDepth 100000
set_option maxHeartbeats 12800000
namespace Go.Proofs.YtmlhcncagdfjfaaGreat.Fa
open Go.RowKit Rg
def kD (d : Int → Bool) (r : RuleM) : Bool := d r.kind
theorem kR {f1 f2 : FuncId} {d1 d2 : Int → Bool} (C1 : ∀ (w : World) (k h : Int) (v : Value), Calls Tryz.prog f1 #[.agg #[.int .i64 k, .int .i64 h, v]] w fun o w' => o = .returned (.bool (d1 k)) ∧ Below w.heap.size w w') (C2 : ∀ (w : World) (k h : Int) (v : Value), Calls Tryz.prog f2 #[.agg #[.int .i64 k, .int .i64 h, v]] w fun o w' => o = .returned (.bool (d2 k)) ∧ Below w.heap.size w w') (himp : ∀ k, d1 k = false → d2 k = false) (E1 : ∀ args w', (callFunc f1 args).run Tryz.prog w' = .ok (.enter f1 args) w') (E2 : ∀ args w', (callFunc f2 args).run Tryz.prog w' = .ok (.enter f2 args) w') {w : World} {T : Th} {F : List Int} {n : Nat} {fa ra ba : Option Addr} {fc rc bc : Nat} (h : TA w.heap.size w T fa fc ra rc ba bc) (hp : Pf T F n) :
    Calls Tryz.prog 173 #[tv T fa fc ra rc ba bc, .func (.func f1) #[] #[], .func (.func f2) #[] #[]] w fun o w' => ∃ q us ms rr op vs H, o = .returned (.agg (rS us ms rr op n T.rules.length).toArray) ∧ Nw w.heap.size q us ms rr op n T.rules.length (fi T (kD d1) T.rules.length) (eh T (kD d2) (opK T (kD d2) T.rules.length) T.rules.length) H vs w' ∧ (∀ z : Nat, z < n → (H 0).getD z [] = dQ T (kD d1) T.rules.length z) ∧ Below w.heap.size w w' := by
 obtain ⟨iL, Cv, Cn, CA, Cw⟩ := info_parts mY
 obtain ⟨iB, CI, CD, Ck, Cu⟩ := info_parts jA
 obtain ⟨iI, BA, Bx, Bw, Bk⟩ := info_parts gE
 have Dl := hp.n4
 have Db : T.rules.length ≤ 4096 := hp.ok.rl
 have BL : ∀ W, (Instr.makeSlice 22 (.int .i64 T.lits) (.int .i64 T.lits)).run Tryz.prog W = .ok (sl W.heap.size n) (W.alloc (.cells (Array.replicate n (.slice none 0 0)) 26)) := fun W => by rw [hp.ln]; exact aH (P := Tryz.prog) Tryz.underlying22 Cv Cn CA rfl n (by rw [Cw]; omega) (by unfold maxLen; omega) W
 have BY : ∀ W, (Instr.makeSlice 26 (.int .i64 T.lits) (.int .i64 T.lits)).run Tryz.prog W = .ok (sl W.heap.size n) (W.alloc (.cells (Array.replicate n (.int .i64 0)) 3)) := fun W => by rw [hp.ln]; exact aH (P := Tryz.prog) Tryz.underlying26 BA Bx Bw rfl n (by rw [Bk]; omega) (by unfold maxLen; omega) W
 have BV : ∀ W, (Instr.makeSlice 26 (.int .i64 T.rules.length) (.int .i64 T.rules.length)).run Tryz.prog W = .ok (sl W.heap.size T.rules.length) (W.alloc (.cells (Array.replicate T.rules.length (.int .i64 0)) 3)) := fun W => aH (P := Tryz.prog) Tryz.underlying26 BA Bx Bw rfl T.rules.length (by rw [Bk]; omega) (by unfold maxLen; omega) W
 have BE : ∀ W, (Instr.makeSlice 106 (.int .i64 T.rules.length) (.int .i64 T.rules.length)).run Tryz.prog W = .ok (sl W.heap.size T.rules.length) (W.alloc (.cells (Array.replicate T.rules.length (.bool false)) 4)) := fun W => aH (P := Tryz.prog) Tryz.underlying106 CI CD Ck rfl T.rules.length (by rw [Cu]; omega) (by unfold maxLen; omega) W
 have Bq := ae w (.cells #[.int .i64 T.lits, .slice fa T.foes.length fc, .slice ra T.rules.length rc, .slice ba T.beats.length bc] 25)
 have BD := ae (w.alloc (.cells #[.int .i64 T.lits, .slice fa T.foes.length fc, .slice ra T.rules.length rc, .slice ba T.beats.length bc] 25)) (.cells #[.slice none 0 0, .slice none 0 0, .slice none 0 0, .slice none 0 0] 178)
 have hB := Bq.trans (BD.mono Bq.size)
 have Cd : Fx w.heap.size 25 [.int .i64 T.lits, .slice fa T.foes.length fc, .slice ra T.rules.length rc, .slice ba T.beats.length bc] ((w.alloc (.cells #[.int .i64 T.lits, .slice fa T.foes.length fc, .slice ra T.rules.length rc, .slice ba T.beats.length bc] 25)).alloc (.cells #[.slice none 0 0, .slice none 0 0, .slice none 0 0, .slice none 0 0] 178)) := (BD.block _ (by simp)).trans (heap_alloc_new w _)
 have BF : Fx (w.heap.size + 1) 178 [.slice none 0 0, .slice none 0 0, .slice none 0 0, .slice none 0 0] ((w.alloc (.cells #[.int .i64 T.lits, .slice fa T.foes.length fc, .slice ra T.rules.length rc, .slice ba T.beats.length bc] 25)).alloc (.cells #[.slice none 0 0, .slice none 0 0, .slice none 0 0, .slice none 0 0] 178)) := by
  have := heap_alloc_new (w.alloc (.cells #[.int .i64 T.lits, .slice fa T.foes.length fc, .slice ra T.rules.length rc, .slice ba T.beats.length bc] 25)) (.cells #[.slice none 0 0, .slice none 0 0, .slice none 0 0, .slice none 0 0] 178)
  simpa [Fx] using this
 have Bz := hide (TR.go hB h)
 have HP := hide hp
 have H1 := hide C1
 have H2 := hide C2
 have HI := hide himp
 clear C1 C2 himp
 have HB := hide hB
 have AC := hide Cd
 have AT := hide BF
 clear h hp hB Bq BD
 go_enter Tryz.func173, Tryz.ntmps173
 go_upto_region 1 with fail
 clear Cd BF
 generalize (w.alloc (.cells #[.int .i64 T.lits, .slice fa T.foes.length fc, .slice ra T.rules.length rc, .slice ba T.beats.length bc] 25)).alloc (.cells #[.slice none 0 0, .slice none 0 0, .slice none 0 0, .slice none 0 0] 178) = W at *
 obtain ⟨bq, Bu⟩ : ∃ bq, w.heap.size = bq := ⟨_, rfl⟩
 have Cp := hide Bu
 rw [Bu] at AC AT ⊢
 clear Bu
 have HDr := hide ((Below.refl W.heap.size W).drew)
 obtain ⟨W0, Bt⟩ : ∃ W0, W.drew = W0 := ⟨_, rfl⟩
 have HX1d := hide (AC.out.keep (HDr.out.block _ AC.out.lt))
 have Ae : Hid (fZ [some 14, some 15, some 16, some 17, some 18, some 19, some 20, some 21, some 22, some 23, some 24, some 25, some 26, some 27, some 28, some 7, none] [(3, aa bq)] = true) := hide rfl
 rw [Bt] at HX1d HDr
 have Af : Hid (∀ X, Below W0.heap.size W0 X → X.cell? ⟨bq, 0, none⟩ = some (.int .i64 T.lits) ∧ X.cell? ⟨bq, 2, none⟩ = some (.slice ra T.rules.length rc)) := hide fun X hX => by
  have hf := HX1d.out.keep (hX.block _ HX1d.out.lt)
  exact ⟨hf.get (i := 0) rfl, hf.get (i := 2) rfl⟩
 refine bV fW (Jl 16 [some 14, some 15, some 16, some 17, some 18, some 19, some 20, some 21, some 22, some 23, some 24, some 25, some 26, some 27, some 28, some 7, none] [(3, aa bq)] (wS T.rules.length ra rc T bq n W0.heap.size) (yX T.rules.length n W0) W0) (by kernel_rfl) (by kernel_rfl) ?_ (ci ⟨?_, ?_, ?_, ?_, ?_, ?_, ?_, ?_, ?_, ?_, ?_, ?_, ?_, ?_, ?_, ?_, ?_, trivial⟩) ?_ ?_
 · refine ⟨fun _ => ?_, fun e => by cases e⟩
   show Jg _ _ _ W0 _ _ W.drew
   rw [Bt]
   exact Jg.start.2 fun p hp => by simp at hp; subst hp; rfl
 · intro ρ X L hc hf hL hd Ab Ac
   have Aa : L 16 = false := ak (by kernel_rfl) Ab (k := 0) (by simp) hL
   have hJ := Ac.1 Aa
   obtain ⟨c0, c2⟩ := Af.out X hJ.low
   have k3 : ρ (.tmp 3) = aa bq := hJ.base (3, aa bq) (by simp)
   refine ac (v := aa bq) (w' := X) ?_ ⟨fun _ => hJ.put Ae.out cN (i := 0) (d := 14) rfl (Below.refl _ _) (rfl), fun e => by rw [al (by decide), Aa] at e; cases e⟩
   clear hd Ab hJ Ac hL Aa
   go_simp
 · intro ρ X L hc hf hL hd Ab Ac
   have Aa : L 16 = false := ak (by kernel_rfl) Ab (k := 1) (by simp) hL
   have hJ := Ac.1 Aa
   obtain ⟨c0, c2⟩ := Af.out X hJ.low
   obtain ⟨_, _, _, e1⟩ := hJ.get (i := 0) (d := 14) rfl (hd ⟨0, .data⟩ (by simp) rfl)
   have Df : ρ (.tmp 14) = aa bq := e1
   clear e1
   refine ac (v := .int .i64 T.lits) (w' := X) ?_ ⟨fun _ => hJ.put Ae.out cN (i := 1) (d := 15) rfl (Below.refl _ _) (rfl), fun e => by rw [al (by decide), Aa] at e; cases e⟩
   clear hd Ab hJ Ac hL Aa
   go_simp
 · intro ρ X L hc hf hL hd Ab Ac
   have Aa : L 16 = false := ak (by kernel_rfl) Ab (k := 2) (by simp) hL
   have hJ := Ac.1 Aa
   obtain ⟨c0, c2⟩ := Af.out X hJ.low
   obtain ⟨_, _, _, e1⟩ := hJ.get (i := 1) (d := 15) rfl (hd ⟨1, .data⟩ (by simp) rfl)
   have Da : ρ (.tmp 15) = .int .i64 T.lits := e1
   have Bv := BL X
   clear e1
   refine ac (v := sl X.heap.size n) (w' := X.alloc (.cells (Array.replicate n (.slice none 0 0)) 26)) ?_ ⟨fun _ => hJ.put Ae.out cN (i := 2) (d := 16) rfl (ae X _) (⟨X.heap.size, rfl, by unfold Fx; rw [heap_alloc_new]; simp, Nat.le_refl _, by simp, hJ.low.size⟩), fun e => by rw [al (by decide), Aa] at e; cases e⟩
   clear hd Ab hJ Ac hL Aa
   go_simp
 · intro ρ X L hc hf hL hd Ab Ac
   have Aa : L 16 = false := ak (by kernel_rfl) Ab (k := 3) (by simp) hL
   have hJ := Ac.1 Aa
   obtain ⟨c0, c2⟩ := Af.out X hJ.low
   have k3 : ρ (.tmp 3) = aa bq := hJ.base (3, aa bq) (by simp)
   refine ac (v := .pointer (some ⟨bq, 2, none⟩)) (w' := X) ?_ ⟨fun _ => hJ.put Ae.out cN (i := 3) (d := 17) rfl (Below.refl _ _) (rfl), fun e => by rw [al (by decide), Aa] at e; cases e⟩
   clear hd Ab hJ Ac hL Aa
   go_simp
 · intro ρ X L hc hf hL hd Ab Ac
   have Aa : L 16 = false := ak (by kernel_rfl) Ab (k := 4) (by simp) hL
   have hJ := Ac.1 Aa
   obtain ⟨c0, c2⟩ := Af.out X hJ.low
   obtain ⟨_, _, _, e1⟩ := hJ.get (i := 3) (d := 17) rfl (hd ⟨3, .data⟩ (by simp) rfl)
   have Dh : ρ (.tmp 17) = .pointer (some ⟨bq, 2, none⟩) := e1
   clear e1
   refine ac (v := .slice ra T.rules.length rc) (w' := X) ?_ ⟨fun _ => hJ.put Ae.out cN (i := 4) (d := 18) rfl (Below.refl _ _) (rfl), fun e => by rw [al (by decide), Aa] at e; cases e⟩
   clear hd Ab hJ Ac hL Aa
   go_simp
 · intro ρ X L hc hf hL hd Ab Ac
   have Aa : L 16 = false := ak (by kernel_rfl) Ab (k := 5) (by simp) hL
   have hJ := Ac.1 Aa
   obtain ⟨c0, c2⟩ := Af.out X hJ.low
   obtain ⟨_, _, _, e1⟩ := hJ.get (i := 4) (d := 18) rfl (hd ⟨4, .data⟩ (by simp) rfl)
   have CV : ρ (.tmp 18) = .slice ra T.rules.length rc := e1
   clear e1
   refine ac (v := .int .i64 T.rules.length) (w' := X) ?_ ⟨fun _ => hJ.put Ae.out cN (i := 5) (d := 19) rfl (Below.refl _ _) (rfl), fun e => by rw [al (by decide), Aa] at e; cases e⟩
   clear hd Ab hJ Ac hL Aa
   go_simp
 · intro ρ X L hc hf hL hd Ab Ac
   have Aa : L 16 = false := ak (by kernel_rfl) Ab (k := 6) (by simp) hL
   have hJ := Ac.1 Aa
   obtain ⟨c0, c2⟩ := Af.out X hJ.low
   obtain ⟨_, _, _, e1⟩ := hJ.get (i := 5) (d := 19) rfl (hd ⟨5, .data⟩ (by simp) rfl)
   have Dj : ρ (.tmp 19) = .int .i64 T.rules.length := e1
   have Bv := BV X
   clear e1
   refine ac (v := sl X.heap.size T.rules.length) (w' := X.alloc (.cells (Array.replicate T.rules.length (.int .i64 0)) 3)) ?_ ⟨fun _ => hJ.put Ae.out cN (i := 6) (d := 20) rfl (ae X _) (⟨X.heap.size, rfl, by unfold Fx; rw [heap_alloc_new, mz], Nat.le_refl _, by simp, hJ.low.size⟩), fun e => by rw [al (by decide), Aa] at e; cases e⟩
   clear hd Ab hJ Ac hL Aa
   go_simp
 · intro ρ X L hc hf hL hd Ab Ac
   have Aa : L 16 = false := ak (by kernel_rfl) Ab (k := 7) (by simp) hL
   have hJ := Ac.1 Aa
   obtain ⟨c0, c2⟩ := Af.out X hJ.low
   have k3 : ρ (.tmp 3) = aa bq := hJ.base (3, aa bq) (by simp)
   refine ac (v := .pointer (some ⟨bq, 2, none⟩)) (w' := X) ?_ ⟨fun _ => hJ.put Ae.out cN (i := 7) (d := 21) rfl (Below.refl _ _) (rfl), fun e => by rw [al (by decide), Aa] at e; cases e⟩
   clear hd Ab hJ Ac hL Aa
   go_simp
 · intro ρ X L hc hf hL hd Ab Ac
   have Aa : L 16 = false := ak (by kernel_rfl) Ab (k := 8) (by simp) hL
   have hJ := Ac.1 Aa
   obtain ⟨c0, c2⟩ := Af.out X hJ.low
   obtain ⟨_, _, _, e1⟩ := hJ.get (i := 7) (d := 21) rfl (hd ⟨7, .data⟩ (by simp) rfl)
   have Dd : ρ (.tmp 21) = .pointer (some ⟨bq, 2, none⟩) := e1
   clear e1
   refine ac (v := .slice ra T.rules.length rc) (w' := X) ?_ ⟨fun _ => hJ.put Ae.out cN (i := 8) (d := 22) rfl (Below.refl _ _) (rfl), fun e => by rw [al (by decide), Aa] at e; cases e⟩
   clear hd Ab hJ Ac hL Aa
   go_simp
 · intro ρ X L hc hf hL hd Ab Ac
   have Aa : L 16 = false := ak (by kernel_rfl) Ab (k := 9) (by simp) hL
   have hJ := Ac.1 Aa
   obtain ⟨c0, c2⟩ := Af.out X hJ.low
   obtain ⟨_, _, _, e1⟩ := hJ.get (i := 8) (d := 22) rfl (hd ⟨8, .data⟩ (by simp) rfl)
   have Dq : ρ (.tmp 22) = .slice ra T.rules.length rc := e1
   clear e1
   refine ac (v := .int .i64 T.rules.length) (w' := X) ?_ ⟨fun _ => hJ.put Ae.out cN (i := 9) (d := 23) rfl (Below.refl _ _) (rfl), fun e => by rw [al (by decide), Aa] at e; cases e⟩
   clear hd Ab hJ Ac hL Aa
   go_simp
 · intro ρ X L hc hf hL hd Ab Ac
   have Aa : L 16 = false := ak (by kernel_rfl) Ab (k := 10) (by simp) hL
   have hJ := Ac.1 Aa
   obtain ⟨c0, c2⟩ := Af.out X hJ.low
   obtain ⟨_, _, _, e1⟩ := hJ.get (i := 9) (d := 23) rfl (hd ⟨9, .data⟩ (by simp) rfl)
   have CT : ρ (.tmp 23) = .int .i64 T.rules.length := e1
   have Bv := BE X
   clear e1
   refine ac (v := sl X.heap.size T.rules.length) (w' := X.alloc (.cells (Array.replicate T.rules.length (.bool false)) 4)) ?_ ⟨fun _ => hJ.put Ae.out cN (i := 10) (d := 24) rfl (ae X _) (⟨X.heap.size, rfl, by unfold Fx ct; rw [heap_alloc_new]; simp [List.map_const'], Nat.le_refl _, by simp, hJ.low.size⟩), fun e => by rw [al (by decide), Aa] at e; cases e⟩
   clear hd Ab hJ Ac hL Aa
   go_simp
 · intro ρ X L hc hf hL hd Ab Ac
   have Aa : L 16 = false := ak (by kernel_rfl) Ab (k := 11) (by simp) hL
   have hJ := Ac.1 Aa
   obtain ⟨c0, c2⟩ := Af.out X hJ.low
   have k3 : ρ (.tmp 3) = aa bq := hJ.base (3, aa bq) (by simp)
   refine ac (v := aa bq) (w' := X) ?_ ⟨fun _ => hJ.put Ae.out cN (i := 11) (d := 25) rfl (Below.refl _ _) (rfl), fun e => by rw [al (by decide), Aa] at e; cases e⟩
   clear hd Ab hJ Ac hL Aa
   go_simp
 · intro ρ X L hc hf hL hd Ab Ac
   have Aa : L 16 = false := ak (by kernel_rfl) Ab (k := 12) (by simp) hL
   have hJ := Ac.1 Aa
   obtain ⟨c0, c2⟩ := Af.out X hJ.low
   obtain ⟨_, _, _, e1⟩ := hJ.get (i := 11) (d := 25) rfl (hd ⟨11, .data⟩ (by simp) rfl)
   have Di : ρ (.tmp 25) = aa bq := e1
   clear e1
   refine ac (v := .int .i64 T.lits) (w' := X) ?_ ⟨fun _ => hJ.put Ae.out cN (i := 12) (d := 26) rfl (Below.refl _ _) (rfl), fun e => by rw [al (by decide), Aa] at e; cases e⟩
   clear hd Ab hJ Ac hL Aa
   go_simp
 · intro ρ X L hc hf hL hd Ab Ac
   have Aa : L 16 = false := ak (by kernel_rfl) Ab (k := 13) (by simp) hL
   have hJ := Ac.1 Aa
   obtain ⟨c0, c2⟩ := Af.out X hJ.low
   obtain ⟨_, _, _, e1⟩ := hJ.get (i := 12) (d := 26) rfl (hd ⟨12, .data⟩ (by simp) rfl)
   have CO : ρ (.tmp 26) = .int .i64 T.lits := e1
   have Bv := BY X
   clear e1
   refine ac (v := sl X.heap.size n) (w' := X.alloc (.cells (Array.replicate n (.int .i64 0)) 3)) ?_ ⟨fun _ => hJ.put Ae.out cN (i := 13) (d := 27) rfl (ae X _) (⟨X.heap.size, rfl, by unfold Fx; rw [heap_alloc_new, mz], Nat.le_refl _, by simp, hJ.low.size⟩), fun e => by rw [al (by decide), Aa] at e; cases e⟩
   clear hd Ab hJ Ac hL Aa
   go_simp
 · intro ρ X L hc hf hL hd Ab Ac
   have Aa : L 16 = false := ak (by kernel_rfl) Ab (k := 14) (by simp) hL
   have hJ := Ac.1 Aa
   obtain ⟨c0, c2⟩ := Af.out X hJ.low
   obtain ⟨lo, hi, AM, Bp⟩ := hJ.at_
   have l2 : L 2 = true := hd ⟨2, .data⟩ (by simp) rfl
   have l6 : L 6 = true := hd ⟨6, .data⟩ (by simp) rfl
   have Co : L 10 = true := hd ⟨10, .data⟩ (by simp) rfl
   have BG : L 13 = true := hd ⟨13, .data⟩ (by simp) rfl
   obtain ⟨-, -, -, g0, e3, f3, a3, b3, n3⟩ := AM 2 16 rfl l2
   obtain ⟨-, -, -, g1, e6, f6, a6, b6, n6⟩ := AM 6 20 rfl l6
   obtain ⟨-, -, -, g2, e9, f9, a9, b9, n9⟩ := AM 10 24 rfl Co
   obtain ⟨-, -, -, g3, BI, BP, CU, Dm, Ch⟩ := AM 13 27 rfl BG
   have d1 := Bp 6 13 20 27 rfl rfl (by decide) l6 BG
   have CM : ρ (.tmp 16) = sl g0 n := e3
   have CY : ρ (.tmp 20) = sl g1 T.rules.length := e6
   have Do : ρ (.tmp 24) = sl g2 T.rules.length := e9
   have Dn : ρ (.tmp 27) = sl g3 n := BI
   refine ac (v := .agg #[sl g0 n, sl g1 T.rules.length, sl g2 T.rules.length, sl g3 n]) (w' := X) ?_ ⟨fun _ => hJ.put Ae.out cN (i := 14) (d := 28) rfl (Below.refl _ _) (⟨g0, g1, g2, g3, rfl, f3, f6, f9, BP, ⟨n3, n6, n9, Ch⟩, by omega⟩), fun e => by rw [al (by decide), Aa] at e; cases e⟩
   clear hd Ab hJ Ac hL Aa AM Bp d1 e3 e6 e9 BI f3 f6 f9 BP
   go_simp
 · intro ρ X L hc hf hL hd Ab Ac
   have Aa : L 16 = false := ak (by kernel_rfl) Ab (k := 15) (by simp) hL
   have hJ := Ac.1 Aa
   obtain ⟨c0, c2⟩ := Af.out X hJ.low
   refine ac (v := aa X.heap.size) (w' := X.alloc (.cells #[.slice none 0 0, .slice none 0 0, .slice none 0 0, .slice none 0 0] 178)) ?_ ⟨fun _ => hJ.put Ae.out cN (i := 15) (d := 7) rfl (ae X _) (⟨X.heap.size, [.slice none 0 0, .slice none 0 0, .slice none 0 0, .slice none 0 0], rfl, heap_alloc_new X _, rfl, hJ.low.size⟩), fun e => by rw [al (by decide), Aa] at e; cases e⟩
   clear hd Ab hJ Ac hL Aa
   go_simp
 · intro ρ X L hc hf hL hd Ab Ac
   have hJ := Ac.1 hL
   obtain ⟨_, _, _, g0, g1, g2, g3, BZ, f0, f1, f2, f3, ⟨m0, m1, m2, m3⟩, d1⟩ := hJ.get (i := 14) (d := 28) rfl (hd ⟨14, .data⟩ (by simp) rfl)
   obtain ⟨_, _, _, q, xs, e7, h0, Cl, hq⟩ := hJ.get (i := 15) (d := 7) rfl (hd ⟨15, .data⟩ (by simp) rfl)
   obtain ⟨t0, t1, t2, t3, rfl⟩ : ∃ t0 t1 t2 t3, xs = [t0, t1, t2, t3] := by
    match xs, Cl with
    | [t0, t1, t2, t3], _ => exact ⟨t0, t1, t2, t3, rfl⟩
   have CS : ρ (.tmp 28) = .agg #[sl g0 n, sl g1 T.rules.length, sl g2 T.rules.length, sl g3 n] := BZ
   have k7 : ρ (.tmp 7) = aa q := e7
   have y0 := h0.get (i := 0) (v := t0) rfl
   have z0 := h0.frz 0
   have h1 := h0.set 0 (sl g0 n)
   have y1 := h1.get (i := 1) (v := t1) rfl
   have z1 := h1.frz 1
   have h2 := h1.set 1 (sl g1 T.rules.length)
   have y2 := h2.get (i := 2) (v := t2) rfl
   have z2 := h2.frz 2
   have h3 := h2.set 2 (sl g2 T.rules.length)
   have y3 := h3.get (i := 3) (v := t3) rfl
   have z3 := h3.frz 3
   have h4 := h3.set 3 (sl g3 n)
   have kp : ∀ {g t : Nat} {xs : List Value}, Fx g t xs X → t ≠ 178 → Fx g t xs ((((X.setCell ⟨q, 0, none⟩ (sl g0 n)).setCell ⟨q, 1, none⟩ (sl g1 T.rules.length)).setCell ⟨q, 2, none⟩ (sl g2 T.rules.length)).setCell ⟨q, 3, none⟩ (sl g3 n)) := fun hx ht => by
    have Cj := an hx h0 ht
    exact hx.keep (by simp only [other_set Cj])
   have AK : Hid (yX T.rules.length n W0 (fA (fun s => ρ (.tmp s)) none undef) ((((X.setCell ⟨q, 0, none⟩ (sl g0 n)).setCell ⟨q, 1, none⟩ (sl g1 T.rules.length)).setCell ⟨q, 2, none⟩ (sl g2 T.rules.length)).setCell ⟨q, 3, none⟩ (sl g3 n))) := hide ⟨q, g0, g1, g2, g3, by rw [eZ (by simp)]; exact k7, ⟨h4, kp f1 (by decide), kp f2 (by decide), kp f3 (by decide), vE (kp f0 (by decide)) m0, ⟨hq, m1, m2, m3⟩, d1, fun i v hv => by rw [List.getElem?_replicate] at hv; split at hv <;> cases hv; exact ⟨fun e => (by cases e), fun e => (by cases e)⟩⟩, ((((hJ.low.setCell (p := ⟨q, 0, none⟩) hq _).setCell (p := ⟨q, 1, none⟩) hq _).setCell (p := ⟨q, 2, none⟩) hq _).setCell (p := ⟨q, 3, none⟩) hq _)⟩
   refine bX (w' := ((((X.setCell ⟨q, 0, none⟩ (sl g0 n)).setCell ⟨q, 1, none⟩ (sl g1 T.rules.length)).setCell ⟨q, 2, none⟩ (sl g2 T.rules.length)).setCell ⟨q, 3, none⟩ (sl g3 n))) ?_ ⟨fun e => (by rw [aG] at e; cases e), fun _ => AK.out⟩
   clear hd Ab hJ Ac hL kp AK f0 f1 f2 f3 h1 h2 h3 h4 h0 BZ e7
   go_simp
 · intro c a' w' _ hE
   exact hE.elim
 · rintro ⟨Ad, df⟩ w' Az AX ⟨L, hL, hJ⟩ At
   simp only at AX Az
   subst AX
   obtain ⟨q, us, ms, rr, op, e7, BN, BW⟩ := hJ.2 (hL 16 (by decide))
   have e7 : Ad.getD 7 undef = aa q := e7
   have Av := em 14 28 7 (by kernel_rfl) Az At
   simp only [zs, Nat.reduceLT, Nat.reduceAdd, true_or, or_true, or_self, false_and, ne_eq, Nat.reduceEqDiff, not_false_eq_true, not_true_eq_false, and_self, and_false, if_true, if_false, e7] at Av
   rw [Av]
   clear Av hJ hL At Az e7 BL BE BY BV Af Ae
   generalize Ad.getD 14 undef = x14
   generalize Ad.getD 15 undef = x15
   generalize Ad.getD 16 undef = x16
   generalize Ad.getD 17 undef = x17
   generalize Ad.getD 18 undef = x18
   generalize Ad.getD 19 undef = x19
   generalize Ad.getD 20 undef = x20
   generalize Ad.getD 21 undef = x21
   generalize Ad.getD 22 undef = x22
   generalize Ad.getD 23 undef = x23
   generalize Ad.getD 24 undef = x24
   generalize Ad.getD 25 undef = x25
   generalize Ad.getD 26 undef = x26
   generalize Ad.getD 27 undef = x27
   generalize Ad.getD 28 undef = x28
   have Aj := hide BN
   have Aw : Hid (Below W.heap.size W w') := hide (HDr.out.trans (BW.mono HDr.out.size))
   have Br : W0.heap.size = W.heap.size := by rw [← Bt]; rfl
   rw [Br] at Aj
   clear BN BW Br HDr HX1d
   have c2 := (AC.out.keep (Aw.out.block _ AC.out.lt)).get (i := 2) rfl
   go_wp2_with fail
   clear c2
   go_loopw [32] (fun x wr => ∃ (k : Nat) (H : Nat → List (List Int)) (vs : Nat → List Value), k ≤ T.rules.length ∧ x = .int .i64 k ∧ Hid (Gu T (kD d1) n k 0 H) ∧ Hid (Nw W.heap.size q us ms rr op n T.rules.length (fi T (kD d1) k) (opK T (kD d2) k) H vs wr) ∧ Hid (Below W.heap.size W wr)) (fun x _ => T.rules.length - (intOf x).toNat)
   case atStart => exact ⟨0, _, _, by omega, rfl, hide Gu.start, Aj, Aw⟩
   case round =>
    clear Aj Aw
    obtain ⟨k, H, vs, hk, rfl, HG, HN, HBr⟩ := hrel
    by_cases AD : k < T.rules.length
    · obtain ⟨r, hr⟩ := am AD
      obtain ⟨h0, h1⟩ := HP.out.head r (List.mem_of_getElem? hr)
      obtain ⟨hm, AA⟩ := Int.eq_ofNat_of_zero_le h0
      have AS : hm < n := by omega
      have AQ : aj T k = (hm : Int) := by unfold aj; rw [Int.toNat_natCast, hr]; exact AA
      have BH : aS T (kD d1) k = (kD d1) r := by unfold aS; rw [Int.toNat_natCast, hr]; rfl
      have AW : aS T (kD d2) k = (kD d2) r := by unfold aS; rw [Int.toNat_natCast, hr]; rfl
      have AR : az T k = r.body := by unfold az; rw [Int.toNat_natCast, hr]; rfl
      have hR := TR.keep HBr.out.block Bz.out
      obtain ⟨gr, go, bd, bp, rfl, Bj, x0, x1, x2, -, BK, AI⟩ := dI hR.rules hr
      have CJ : r.body.length ≤ 16 := (HP.out.ok.rule r (List.mem_of_getElem? hr)).2.2.2.2.1
      have Cs : Hid r.body.Nodup := hide (eK (bT (by omega) (HP.out.ok.rule r (List.mem_of_getElem? hr)).2.2.2.2.2).2)
      have Cy : Hid (∀ x ∈ r.body, 0 ≤ x ∧ x < (n : Int)) := hide (HP.out.body r (List.mem_of_getElem? hr))
      have CB : Hid (∀ X, Below W.heap.size W X → At1 X bd (aq r.body)) := hide fun X hX => by
       have h2 := TR.keep hX.block Bz.out
       obtain ⟨g3, o3, b3, p3, e3, Ca, -, -, x3, -, -, Cr⟩ := dI h2.rules hr
       cases e3
       have e4 : wr.cell? ⟨gr, go + k * 3 + 2, none⟩ = X.cell? ⟨gr, go + k * 3 + 2, none⟩ := (World.cell?_of_block (HBr.out.block gr Ca)).trans (World.cell?_of_block (hX.block gr Ca)).symm
       rw [x2, x3] at e4
       cases e4
       exact Cr.at1
      rw [AA] at x1
      have Ay := ae wr (.cells #[.int .i64 r.kind, .int .i64 hm, .slice bd r.body.length bp] 114)
      have HQ : Hid (Fx wr.heap.size 114 [.int .i64 r.kind, .int .i64 hm, .slice bd r.body.length bp] (wr.alloc (.cells #[.int .i64 r.kind, .int .i64 hm, .slice bd r.body.length bp] 114))) := hide (heap_alloc_new wr _)
      have HNq := hide (HN.out.go Ay)
      have HBq := hide (HBr.out.trans (Ay.mono HBr.out.size))
      have HRr := hide hr
      have Bs := hide AQ
      have BS := hide BH
      have AB := hide AW
      have Bc := hide AR
      have HL := hide AD
      clear hr h0 h1 AA hR Ay AI HN HBr Bj AQ BH AW AR
      go_upto_region 5 with fail
      clear x0 x1 x2
      generalize wr.alloc (.cells #[.int .i64 r.kind, .int .i64 hm, .slice bd r.body.length bp] 114) = wq at *
      obtain ⟨qr, AL⟩ : ∃ qr, wr.heap.size = qr := ⟨_, rfl⟩
      rw [AL] at HQ ⊢
      clear AL
      have q0 := HQ.out.get (i := 0) rfl
      have q1 := HQ.out.get (i := 1) rfl
      have q2 := HQ.out.get (i := 2) rfl
      have CW := hide (H1.out wq r.kind (hm : Int) (.slice bd r.body.length bp))
      cases htk : d1 r.kind with
      | false =>
       have AH : Hid (kD d1 r = false) := hide htk
       have AP : Hid (fi T (kD d1) (k + 1) = fi T (kD d1) k) := hide (by rw [mN, BS.out, if_neg (by rw [AH.out]; decide)])
       have Al : Hid (opK T (kD d2) (k + 1) = opK T (kD d2) k) := hide (by rw [kk, AB.out, if_neg (by rw [show kD d2 r = false from HI.out _ AH.out]; decide)])
       rw [htk] at CW
       clear htk
       go_wp2_with (refine CW.out.mono ?_; rintro _ w3 ⟨rfl, hb⟩; have Ap := hide hb; clear hb)
       go_roundw
       case rel => exact ⟨k + 1, _, _, by have := HL.out; omega, by go_num, hide (HG.out.none HRr.out AH.out), hide (by rw [AP.out, Al.out]; exact HNq.out.go Ap.out), hide (HBq.out.trans (Ap.out.mono HBq.out.size))⟩
       case measure => have := HL.out; simp [intOf]; omega
      | true =>
       have AH : Hid (kD d1 r = true) := hide htk
       rw [htk] at CW
       clear htk
       have AP : Hid (fi T (kD d1) (k + 1) = aB (fi T (kD d1) k) k (r.body.length : Nat)) := hide (by rw [mN, BS.out, Bc.out, if_pos AH.out])
       go_upto_region 6 with (refine CW.out.mono ?_; rintro _ w3 ⟨rfl, hb⟩; have Ap := hide hb; clear hb)
       have Au := hide (HNq.out.go Ap.out)
       have AE := hide (HQ.out.keep (Ap.out.block _ HQ.out.lt))
       have BR := hide (HBq.out.trans (Ap.out.mono HBq.out.size))
       clear HNq HQ HBq Ap q0 q1 q2 CW
       have s1 := Au.out.bx.get (i := 1) rfl
       have q2 := AE.out.get (i := 2) rfl
       have cm := Au.out.fm.get (aX HL.out)
       have zm := Au.out.fm.frz k
       have BB := hide (Au.out.setM HL.out (r.body.length : Nat))
       have Bo := hide (AE.out.keep (w' := w3.setCell ⟨ms, k, none⟩ (.int .i64 (r.body.length : Nat))) (other_set (an AE.out Au.out.fm (by decide))))
       have BQ := hide (BR.out.setCell (p := ⟨ms, k, none⟩) Au.out.lo.2.1 (.int .i64 (r.body.length : Nat)))
       have q2' := Bo.out.get (i := 2) rfl
       obtain ⟨Bd, BC⟩ : ∃ Bd, aB (fi T (kD d1) k) k (r.body.length : Nat) = Bd := ⟨_, rfl⟩
       rw [BC] at BB AP
       clear Au AE BR BC
       go_wp2_with fail
       clear s1 q2 cm zm q2'
       go_loopw [51] (fun x wr => ∃ (j : Nat) (H : Nat → List (List Int)) (vs : Nat → List Value), j ≤ r.body.length ∧ x = .int .i64 j ∧ Hid (Gu T (kD d1) n k j H) ∧ Hid (Nw W.heap.size q us ms rr op n T.rules.length Bd (opK T (kD d2) k) H vs wr) ∧ Hid (Below W.heap.size W wr) ∧ Hid (Fx qr 114 [.int .i64 r.kind, .int .i64 hm, .slice bd r.body.length bp] wr)) (fun x _ => r.body.length - (intOf x).toNat)
       case atStart => exact ⟨0, _, _, by omega, rfl, HG, BB, BQ, Bo⟩
       case round =>
        clear HG BB BQ Bo
        rename World => wr3
        obtain ⟨j, H, vs, hj, rfl, HG, HN, HBq, HQ⟩ := hrel
        by_cases hjl : j < r.body.length
        · obtain ⟨x0, hx⟩ := am hjl
          obtain ⟨y0, y1⟩ := Cy.out x0 (List.mem_of_getElem? hx)
          obtain ⟨x, rfl⟩ := Int.eq_ofNat_of_zero_le y0
          have Bh : x < n := by omega
          obtain ⟨gx, ox, rfl, cx⟩ := (CB.out wr3 HBq.out).get hx
          have HXx := hide hx
          have Cg : Hid (∀ (c i : Nat) (l : List Int), c < 1 → (H c)[i]? = some l → l.length ≤ 4096) := hide fun c i l hc hl => HG.out.len (by have := HL.out; omega) (z := i) (by rw [← (show c = 0 by omega)]; exact hl)
          clear hx y0 y1
          go_upto_region 10 with fail
          have AJ := (Below.refl wr3.heap.size wr3).drew
          have HNd0 := hide (HN.out.go AJ)
          have HQd0 := hide (HQ.out.keep (AJ.block _ HQ.out.lt))
          have HBd0 := hide (HBq.out.trans (AJ.mono HBq.out.size))
          obtain ⟨wd, By⟩ : ∃ wd, wr3.drew = wd := ⟨_, rfl⟩
          rw [By] at HNd0 HQd0 HBd0
          obtain ⟨l0, Ao, An, Bn, BJ, Bf, Ax⟩ := HNd0.out.h3.at (c := 0) (by omega) (show x < n from Bh)
          have Bf : wd.cell? ⟨us, x, none⟩ = some (.slice Ao l0.length An) := Bf
          have CK : l0.length ≤ 4096 := Cg.out 0 _ _ (by omega) Bn
          have AO := ae wd (.cells #[.int .i64 k] 3)
          have Bl : W.heap.size ≤ wd.heap.size := HBd0.out.size
          obtain ⟨Ar, Am, w2, Cc, Bb, Ai, Bm, Cf⟩ := run_append_lies (P := Tryz.prog) (wd.alloc (.cells #[.int .i64 k] 3)) 26 26 W.heap.size 3 iI _ 1 8 Tryz.underlying26 BA Bx Bw Bk rfl (by decide) (.slice Ao l0.length An) l0.length (aq l0) (owns_keep Ax fun g hg => AO.block g (ax Ax hg)) ⟨wd.heap.size, 0, none⟩ 1 1 [.int .i64 k] rfl (World.news_of_block (cs := [.int .i64 k].toArray) (t := 3) (fr := (0, 0)) (heap_alloc_new wd (.cells #[.int .i64 k] 3))) (by simp [Value.oneCell']) (by decide) (by unfold maxLen; omega) (by omega) (by simp; omega) (wd.heap.size + 1) (by simp)
          have BT := hide Cc
          have Aq : ∀ k, k < wd.heap.size → Value.ownBlock (.slice Ao l0.length An) ≠ some k → w2.heap[k]? = wd.heap[k]? := fun k hk hn => (Ai.block k (by simp; omega) fun e => hn e.symm).trans (AO.block k hk)
          have AZ := au Ax (HNd0.out.h3.fx 0 (by omega)) (by decide)
          have AY := au Ax HQd0.out (by decide)
          have Bi := au Ax HNd0.out.bx (by decide)
          obtain ⟨w3, AU⟩ : ∃ w3, w2.setCell ⟨us, x, none⟩ (.slice (some ⟨Ar, 0, none⟩) (l0.length + 1) Am) = w3 := ⟨_, rfl⟩
          have BM := hide AU
          have HN0a : Hid (Nw W.heap.size q us ms rr op n T.rules.length Bd (opK T (kD d2) k) (up H 0 ((H 0).set x (l0 ++ [(k : Int)]))) (up vs 0 ((vs 0).set x (.slice (some ⟨Ar, 0, none⟩) (l0.length + 1) Am))) w3) := hide (by rw [← AU]; exact HNd0.out.add (c := 0) (by omega) Bn BJ Bb Aq (by rcases Bm with h | h; exact .inl h; exact .inr (by omega)))
          have AE : Hid (Fx qr 114 [.int .i64 r.kind, .int .i64 hm, .slice (some ⟨gx, ox, none⟩) r.body.length bp] w3) := hide (by rw [← AU]; exact (HQd0.out.keep (Aq _ HQd0.out.lt AY)).keep (other_set (an HQd0.out (HNd0.out.h3.fx 0 (by omega)) (by decide))))
          have Ap : Hid (Below W.heap.size W w3) := hide (by rw [← AU]; exact (HBd0.out.trans (show Below W.heap.size wd w2 from (AO.mono Bl).trans ⟨Ai.os, Ai.tape, Ai.output, Ai.size, fun k hk => Ai.block k (by simp; omega) fun e => by have := (Ax.lt k e.symm).1; omega⟩)).setCell (p := ⟨us, x, none⟩) (HNd0.out.h3.lo 0 (by omega)) (.slice (some ⟨Ar, 0, none⟩) (l0.length + 1) Am))
          have Bg : ∀ {a : Addr} {v : Value}, wd.cell? a = some v → Value.ownBlock (.slice Ao l0.length An) ≠ some a.block → ∀ X, X = wd ∨ X = wd.alloc (.cells #[.int .i64 k] 3) ∨ X = w2 → X.cell? a = some v := fun ha hn X hX => by
           have AD := World.block_lt_of_cell? wd _ ha
           rcases hX with rfl | rfl | rfl
           · exact ha
           · exact ar ha AO
           · exact (World.cell?_of_block (Aq _ AD hn)).trans ha
          have LH := hide (Bg (HNd0.out.bx.get (i := 0) (v := sl us n) rfl) Bi)
          have LQ := hide (Bg (HQd0.out.get (i := 1) rfl) AY)
          have LR := hide (Bg Bf AZ)
          have q1 : w2.cell? ⟨us, x, none⟩ = some (.slice Ao l0.length An) := LR.out w2 (.inr (.inr rfl))
          have q2 : w2.frozen? ⟨us, x, none⟩ = false := ((HNd0.out.h3.fx 0 (by omega)).keep (Aq _ (HNd0.out.h3.fx 0 (by omega)).lt AZ)).frz x
          have Ak : Hid (fZ ([some (55, .pointer (some ⟨q, 0, none⟩)), some (56, sl us n), some (57, .int .i64 x), some (58, .pointer (some ⟨q, 0, none⟩)), some (59, sl us n), some (60, .int .i64 x), some (61, .pointer (some ⟨us, x, none⟩)), some (62, .slice Ao l0.length An), some (63, .int .i64 k), some (64, .slice (some ⟨wd.heap.size, 0, none⟩) 1 1), some (65, .slice (some ⟨Ar, 0, none⟩) (l0.length + 1) Am), some (66, .pointer (some ⟨us, x, none⟩)), none].map fun p : Option (Nat × Value) => p.map Prod.fst) [(7, aa q), (11, .int .i64 x), (8, .int .i64 k)] = true) := hide rfl
          clear HN HQ HBq Bf Ai Bb Cc AY Bi AZ BJ Bm Cf Bg Aq AO Ax HNd0 HQd0 HBd0 Bl AJ AU
          refine bV fW (Jt [some (55, .pointer (some ⟨q, 0, none⟩)), some (56, sl us n), some (57, .int .i64 x), some (58, .pointer (some ⟨q, 0, none⟩)), some (59, sl us n), some (60, .int .i64 x), some (61, .pointer (some ⟨us, x, none⟩)), some (62, .slice Ao l0.length An), some (63, .int .i64 k), some (64, .slice (some ⟨wd.heap.size, 0, none⟩) 1 1), some (65, .slice (some ⟨Ar, 0, none⟩) (l0.length + 1) Am), some (66, .pointer (some ⟨us, x, none⟩)), none] [(7, aa q), (11, .int .i64 x), (8, .int .i64 k)] (fG 9 10 12 wd (wd.alloc (.cells #[.int .i64 k] 3)) w2 w3)) (by kernel_rfl) (by kernel_rfl) ?_ (ci ⟨?_, ?_, ?_, ?_, ?_, ?_, ?_, ?_, ?_, ?_, ?_, ?_, ?_, trivial⟩) ?_ ?_
          · exact ⟨fun p hp => by simp at hp; rcases hp with rfl | rfl | rfl <;> rfl, fun i d v _ hL => (by cases hL), By⟩
          · intro ρ X L hc hf hL hd Ab hJ
            have k7 : ρ (.tmp 7) = aa q := hJ.base (7, aa q) (by simp)
            refine ac (v := .pointer (some ⟨q, 0, none⟩)) (w' := X) ?_ (hJ.put Ak.out rfl (by rw [ap (by decide) (by decide) (by decide)]; exact hJ.wd))
            clear hd Ab hJ hL
            go_simp
          · intro ρ X L hc hf hL hd Ab hJ
            have CX : ρ (.tmp 55) = .pointer (some ⟨q, 0, none⟩) := hJ.vals 0 55 (.pointer (some ⟨q, 0, none⟩)) rfl (hd ⟨0, .data⟩ (by simp) rfl)
            have Ah : L 12 = false := ak (by kernel_rfl) Ab (k := 1) (by simp) hL
            have hx := LH.out X (aZ hJ.wd Ah)
            clear Ah
            refine ac (v := sl us n) (w' := X) ?_ (hJ.put Ak.out rfl (by rw [ap (by decide) (by decide) (by decide)]; exact hJ.wd))
            clear hd Ab hJ hL
            go_simp
          · intro ρ X L hc hf hL hd Ab hJ
            have Ct : ρ (.tmp 11) = .int .i64 x := hJ.base (11, .int .i64 x) (by simp)
            refine ac (v := .int .i64 x) (w' := X) ?_ (hJ.put Ak.out rfl (by rw [ap (by decide) (by decide) (by decide)]; exact hJ.wd))
            clear hd Ab hJ hL
            go_simp
          · intro ρ X L hc hf hL hd Ab hJ
            have k7 : ρ (.tmp 7) = aa q := hJ.base (7, aa q) (by simp)
            refine ac (v := .pointer (some ⟨q, 0, none⟩)) (w' := X) ?_ (hJ.put Ak.out rfl (by rw [ap (by decide) (by decide) (by decide)]; exact hJ.wd))
            clear hd Ab hJ hL
            go_simp
          · intro ρ X L hc hf hL hd Ab hJ
            have De : ρ (.tmp 58) = .pointer (some ⟨q, 0, none⟩) := hJ.vals 3 58 (.pointer (some ⟨q, 0, none⟩)) rfl (hd ⟨3, .data⟩ (by simp) rfl)
            have Ah : L 12 = false := ak (by kernel_rfl) Ab (k := 4) (by simp) hL
            have hx := LH.out X (aZ hJ.wd Ah)
            clear Ah
            refine ac (v := sl us n) (w' := X) ?_ (hJ.put Ak.out rfl (by rw [ap (by decide) (by decide) (by decide)]; exact hJ.wd))
            clear hd Ab hJ hL
            go_simp
          · intro ρ X L hc hf hL hd Ab hJ
            have Ct : ρ (.tmp 11) = .int .i64 x := hJ.base (11, .int .i64 x) (by simp)
            refine ac (v := .int .i64 x) (w' := X) ?_ (hJ.put Ak.out rfl (by rw [ap (by decide) (by decide) (by decide)]; exact hJ.wd))
            clear hd Ab hJ hL
            go_simp
          · intro ρ X L hc hf hL hd Ab hJ
            have Dk : ρ (.tmp 59) = sl us n := hJ.vals 4 59 (sl us n) rfl (hd ⟨4, .data⟩ (by simp) rfl)
            have CP : ρ (.tmp 60) = .int .i64 x := hJ.vals 5 60 (.int .i64 x) rfl (hd ⟨5, .data⟩ (by simp) rfl)
            refine ac (v := .pointer (some ⟨us, x, none⟩)) (w' := X) ?_ (hJ.put Ak.out rfl (by rw [ap (by decide) (by decide) (by decide)]; exact hJ.wd))
            clear hd Ab hJ hL
            go_simp
          · intro ρ X L hc hf hL hd Ab hJ
            have CQ : ρ (.tmp 61) = .pointer (some ⟨us, x, none⟩) := hJ.vals 6 61 (.pointer (some ⟨us, x, none⟩)) rfl (hd ⟨6, .data⟩ (by simp) rfl)
            have Ah : L 12 = false := ak (by kernel_rfl) Ab (k := 7) (by simp) hL
            have hx := LR.out X (aZ hJ.wd Ah)
            clear Ah
            refine ac (v := .slice Ao l0.length An) (w' := X) ?_ (hJ.put Ak.out rfl (by rw [ap (by decide) (by decide) (by decide)]; exact hJ.wd))
            clear hd Ab hJ hL
            go_simp
          · intro ρ X L hc hf hL hd Ab hJ
            have k8 : ρ (.tmp 8) = .int .i64 k := hJ.base (8, .int .i64 k) (by simp)
            refine ac (v := .int .i64 k) (w' := X) ?_ (hJ.put Ak.out rfl (by rw [ap (by decide) (by decide) (by decide)]; exact hJ.wd))
            clear hd Ab hJ hL
            go_simp
          · intro ρ X L hc hf hL hd Ab hJ
            have Dp : ρ (.tmp 63) = .int .i64 k := hJ.vals 8 63 (.int .i64 k) rfl (hd ⟨8, .data⟩ (by simp) rfl)
            have AF : L 10 = false := by cases e : L 10 with | false => rfl | true => (have := Ab 10 _ rfl e ⟨9, .data⟩ (by simp) rfl; rw [show (⟨9, .data⟩ : Edge).on = 9 from rfl] at this; rw [hL] at this; cases this)
            have Ah : L 12 = false := ak (by kernel_rfl) Ab (k := 9) (by simp) hL
            have hX := hJ.wd.trans (j4 hL AF Ah)
            refine ac (v := .slice (some ⟨wd.heap.size, 0, none⟩) 1 1) (w' := wd.alloc (.cells #[.int .i64 k] 3)) ?_ (hJ.put Ak.out rfl ((eC aG (by rw [al (by decide)]; exact AF) (by rw [al (by decide)]; exact Ah)).symm))
            subst hX
            clear hd Ab hJ hL AF Ah
            go_simp
          · intro ρ X L hc hf hL hd Ab hJ
            have Cx : ρ (.tmp 62) = .slice Ao l0.length An := hJ.vals 7 62 (.slice Ao l0.length An) rfl (hd ⟨7, .data⟩ (by simp) rfl)
            have Ci : ρ (.tmp 64) = .slice (some ⟨wd.heap.size, 0, none⟩) 1 1 := hJ.vals 9 64 (.slice (some ⟨wd.heap.size, 0, none⟩) 1 1) rfl (hd ⟨9, .data⟩ (by simp) rfl)
            have CE : L 9 = true := hd ⟨9, .data⟩ (by simp) rfl
            have Ah : L 12 = false := ak (by kernel_rfl) Ab (k := 10) (by simp) hL
            have hX := hJ.wd.trans (eC CE hL Ah)
            refine eV _ _ 26 rfl Cx Ci (u := .slice (some ⟨Ar, 0, none⟩) (l0.length + 1) Am) (w' := w2) (by rw [hX]; exact BT.out) (hJ.put Ak.out rfl ((eF aG (by rw [al (by decide)]; exact Ah)).symm))
          · intro ρ X L hc hf hL hd Ab hJ
            have CN : ρ (.tmp 56) = sl us n := hJ.vals 1 56 (sl us n) rfl (hd ⟨1, .data⟩ (by simp) rfl)
            have CR : ρ (.tmp 57) = .int .i64 x := hJ.vals 2 57 (.int .i64 x) rfl (hd ⟨2, .data⟩ (by simp) rfl)
            refine ac (v := .pointer (some ⟨us, x, none⟩)) (w' := X) ?_ (hJ.put Ak.out rfl (by rw [ap (by decide) (by decide) (by decide)]; exact hJ.wd))
            clear hd Ab hJ hL
            go_simp
          · intro ρ X L hc hf hL hd Ab hJ
            have CZ : ρ (.tmp 66) = .pointer (some ⟨us, x, none⟩) := hJ.vals 11 66 (.pointer (some ⟨us, x, none⟩)) rfl (hd ⟨11, .data⟩ (by simp) rfl)
            have Dc : ρ (.tmp 65) = .slice (some ⟨Ar, 0, none⟩) (l0.length + 1) Am := hJ.vals 10 65 (.slice (some ⟨Ar, 0, none⟩) (l0.length + 1) Am) rfl (hd ⟨10, .data⟩ (by simp) rfl)
            have AF : L 10 = true := hd ⟨10, .data⟩ (by simp) rfl
            have hX := hJ.wd.trans (eF AF hL)
            refine bX (w' := w3) ?_ (hJ.last rfl ((eD aG).symm))
            subst hX
            clear hd Ab hJ hL AF
            rw [← BM.out]
            go_simp
          · intro c a' w' _ hE
            exact hE.elim
          · rintro ⟨Ad, df⟩ w' Az AX ⟨L, hL, hJ⟩ At
            simp only at AX Az
            subst AX
            have CC : w3 = w' := (hJ.wd.trans (eD (hL 12 (by decide)))).symm
            subst CC
            have Av := dC 55 66 (by kernel_rfl) Az At
            simp only [zr, Nat.reduceLT, Nat.reduceAdd, true_or, or_true, or_self, if_true, if_false] at Av
            rw [Av]
            clear Av hJ hL At Az Ak BT BM LH LQ LR q1 q2 By
            generalize Ad.getD 55 undef = x55
            generalize Ad.getD 56 undef = x56
            generalize Ad.getD 57 undef = x57
            generalize Ad.getD 58 undef = x58
            generalize Ad.getD 59 undef = x59
            generalize Ad.getD 60 undef = x60
            generalize Ad.getD 61 undef = x61
            generalize Ad.getD 62 undef = x62
            generalize Ad.getD 63 undef = x63
            generalize Ad.getD 64 undef = x64
            generalize Ad.getD 65 undef = x65
            generalize Ad.getD 66 undef = x66
            have Be := hide (HG.out.add HRr.out Cs.out HXx.out Bh Bn)
            go_wp2_with fail
            go_roundw
            case rel => exact ⟨j + 1, _, _, by omega, by go_num, Be, HN0a, Ap, AE⟩
            case measure => simp [intOf]; omega
        · have Be := hide (HG.out.next HRr.out AH.out (by omega))
          have q0 := HQ.out.get (i := 0) rfl
          have q1 := HQ.out.get (i := 1) rfl
          have q2 := HQ.out.get (i := 2) rfl
          have CL := hide (H2.out wr3 r.kind (hm : Int) (.slice bd r.body.length bp))
          cases htk : d2 r.kind with
          | false =>
           have As : Hid ((kD d2) r = false) := hide htk
           rw [htk] at CL
           clear htk
           have Al : Hid (opK T (kD d2) (k + 1) = opK T (kD d2) k) := hide (by rw [kk, AB.out, if_neg (by rw [As.out]; decide)])
           go_wp2_with (refine CL.out.mono ?_; rintro _ w5 ⟨rfl, hb⟩; have Ag := hide hb; clear hb)
           go_roundw
           case rel => exact ⟨k + 1, _, _, by have := HL.out; omega, by go_num, Be, hide (by rw [AP.out, Al.out]; exact HN.out.go Ag.out), hide (HBq.out.trans (Ag.out.mono HBq.out.size))⟩
           case measure => have := HL.out; simp [intOf]; omega
          | true =>
           have As : Hid ((kD d2) r = true) := hide htk
           rw [htk] at CL
           clear htk
           have Al : Hid (opK T (kD d2) (k + 1) = aB (opK T (kD d2) k) hm (aF (opK T (kD d2) k hm))) := hide (by rw [kk, AB.out, if_pos As.out, Bs.out])
           go_upto_region 13 with (refine CL.out.mono ?_; rintro _ w5 ⟨rfl, hb⟩; have Ag := hide hb; clear hb)
           have AG := hide (HN.out.go Ag.out)
           have BX := hide (HQ.out.keep (Ag.out.block _ HQ.out.lt))
           have BU := hide (HBq.out.trans (Ag.out.mono HBq.out.size))
           clear HN HQ HBq Ag q0 q1 q2 CL
           have s3 := AG.out.bx.get (i := 3) rfl
           have q1 := BX.out.get (i := 1) rfl
           have co := AG.out.fo.get (aX AS)
           have zo := AG.out.fo.frz hm
           obtain ⟨v1, Cb⟩ : ∃ v1, IntKind.i64.wrap (opK T (kD d2) k hm + 1) = v1 := ⟨_, rfl⟩
           have HV : Hid (aF (opK T (kD d2) k hm) = v1) := hide Cb
           have Cz := hide (AG.out.setO AS v1)
           have CF := hide (BU.out.setCell (p := ⟨op, hm, none⟩) AG.out.lo.2.2.2 (.int .i64 v1))
           generalize opK T (kD d2) k hm = xo at co Cb
           clear AG BX BU
           go_wp2_with fail
           go_roundw
           case rel => exact ⟨k + 1, _, _, by have := HL.out; omega, by go_num, Be, hide (by rw [AP.out, Al.out, HV.out]; exact Cz.out), CF⟩
           case measure => have := HL.out; simp [intOf]; omega
    · have AV : k = T.rules.length := by omega
      have Aj : Hid (Nw W.heap.size q us ms rr op n T.rules.length (fi T (kD d1) T.rules.length) (eh T (kD d2) (opK T (kD d2) T.rules.length) 0) H vs wr) := hide (by have := HN.out; rw [AV] at this; exact this)
      have CG : Hid (Gu T (kD d1) n T.rules.length 0 H) := hide (by have := HG.out; rw [AV] at this; exact this)
      have Aw := hide HBr.out
      clear HN HG HBr AV
      have c2 := (AC.out.keep (Aw.out.block _ AC.out.lt)).get (i := 2) rfl
      go_wp2_with fail
      clear c2
      go_loopw [83] (fun x wr => ∃ k : Nat, k ≤ T.rules.length ∧ x = .int .i64 k ∧ Hid (Nw W.heap.size q us ms rr op n T.rules.length (fi T (kD d1) T.rules.length) (eh T (kD d2) (opK T (kD d2) T.rules.length) k) H vs wr) ∧ Hid (Below W.heap.size W wr)) (fun x _ => T.rules.length - (intOf x).toNat)
      case atStart => exact ⟨0, by omega, rfl, Aj, Aw⟩
      case round =>
       clear Aj Aw
       rename World => wr5
       obtain ⟨k, hk, rfl, HN, HBr⟩ := hrel
       by_cases AD : k < T.rules.length
       · obtain ⟨r, hr⟩ := am AD
         obtain ⟨h0, h1⟩ := HP.out.head r (List.mem_of_getElem? hr)
         obtain ⟨hm, AA⟩ := Int.eq_ofNat_of_zero_le h0
         have AS : hm < n := by omega
         have AQ : aj T k = (hm : Int) := by unfold aj; rw [Int.toNat_natCast, hr]; exact AA
         have AW : aS T (kD d2) k = (kD d2) r := by unfold aS; rw [Int.toNat_natCast, hr]; rfl
         have AR : az T k = r.body := by unfold az; rw [Int.toNat_natCast, hr]; rfl
         have hR := TR.keep HBr.out.block Bz.out
         obtain ⟨gr, go, bd, bp, rfl, Bj, x0, x1, x2, -, BK, AI⟩ := dI hR.rules hr
         rw [AA] at x1
         have Ay := ae wr5 (.cells #[.int .i64 r.kind, .int .i64 hm, .slice bd r.body.length bp] 114)
         have HQ : Hid (Fx wr5.heap.size 114 [.int .i64 r.kind, .int .i64 hm, .slice bd r.body.length bp] (wr5.alloc (.cells #[.int .i64 r.kind, .int .i64 hm, .slice bd r.body.length bp] 114))) := hide (heap_alloc_new wr5 _)
         have HNq := hide (HN.out.go Ay)
         have HBq := hide (HBr.out.trans (Ay.mono HBr.out.size))
         have Bs := hide AQ
         have AB := hide AW
         have Bc := hide AR
         have HL := hide AD
         clear hr h0 h1 AA hR Ay AI HN HBr Bj AQ AW AR
         go_upto_region 18 with fail
         clear x0 x1 x2
         generalize wr5.alloc (.cells #[.int .i64 r.kind, .int .i64 hm, .slice bd r.body.length bp] 114) = wq at *
         obtain ⟨qr, AL⟩ : ∃ qr, wr5.heap.size = qr := ⟨_, rfl⟩
         rw [AL] at HQ ⊢
         clear AL
         have q0 := HQ.out.get (i := 0) rfl
         have q1 := HQ.out.get (i := 1) rfl
         have q2 := HQ.out.get (i := 2) rfl
         have CL := hide (H2.out wq r.kind (hm : Int) (.slice bd r.body.length bp))
         cases htk : d2 r.kind with
         | false =>
          have As : Hid ((kD d2) r = false) := hide htk
          have Al : Hid (eh T (kD d2) (opK T (kD d2) T.rules.length) (k + 1) = eh T (kD d2) (opK T (kD d2) T.rules.length) k) := hide (by rw [jT, AB.out, As.out]; rfl)
          rw [htk] at CL
          clear htk
          go_wp2_with (refine CL.out.mono ?_; rintro _ w5 ⟨rfl, hb⟩; have Ag := hide hb; clear hb)
          go_roundw
          case rel => exact ⟨k + 1, by have := HL.out; omega, by go_num, hide (by rw [Al.out]; exact HNq.out.go Ag.out), hide (HBq.out.trans (Ag.out.mono HBq.out.size))⟩
          case measure => have := HL.out; simp [intOf]; omega
         | true =>
          have As : Hid ((kD d2) r = true) := hide htk
          rw [htk] at CL
          clear htk
          by_cases he : r.body.length = 0
          · have AN : r.body.isEmpty = true := by rw [List.isEmpty_iff]; exact List.eq_nil_of_length_eq_zero he
            have Al : Hid (eh T (kD d2) (opK T (kD d2) T.rules.length) (k + 1) = aB (eh T (kD d2) (opK T (kD d2) T.rules.length) k) hm 0) := hide (by rw [jT, AB.out, As.out, Bc.out, AN, Bs.out]; rfl)
            have BO : ((r.body.length : Int) == 0) = true := by simpa using he
            have Ba : Hid (∀ X, Below wq.heap.size wq X → X.cell? ⟨qr, 1, none⟩ = some (.int .i64 hm) ∧ X.cell? ⟨qr, 2, none⟩ = some (.slice bd r.body.length bp) ∧ X.cell? ⟨q, 3, none⟩ = some (sl op n) ∧ X.cell? ⟨op, hm, none⟩ = some (.int .i64 (eh T (kD d2) (opK T (kD d2) T.rules.length) k hm)) ∧ X.frozen? ⟨op, hm, none⟩ = false) := hide fun X hX => by
             have a := HQ.out.keep (hX.block _ HQ.out.lt)
             have b := HNq.out.go hX
             exact ⟨a.get (i := 1) rfl, a.get (i := 2) rfl, b.bx.get (i := 3) rfl, b.fo.get (aX AS), b.fo.frz hm⟩
            clear AN
            rw [he] at *
            go_wp2_with (refine CL.out.mono ?_; rintro _ w5 ⟨rfl, hb⟩; have Ag := hide hb; obtain ⟨k1, k2, k3, k4, k5⟩ := Ba.out w5 hb; clear hb)
            go_roundw
            case rel => exact ⟨k + 1, by have := HL.out; omega, by go_num, hide (by rw [Al.out]; exact (HNq.out.go Ag.out).setO AS 0), hide ((HBq.out.trans (Ag.out.mono HBq.out.size)).setCell (p := ⟨op, hm, none⟩) HNq.out.lo.2.2.2 (.int .i64 0))⟩
            case measure => have := HL.out; simp [intOf]; omega
          · have AN : r.body.isEmpty = false := by cases hb : r.body with
             | nil => rw [hb] at he; simp at he
             | cons _ _ => rfl
            have Al : Hid (eh T (kD d2) (opK T (kD d2) T.rules.length) (k + 1) = eh T (kD d2) (opK T (kD d2) T.rules.length) k) := hide (by rw [jT, AB.out, As.out, Bc.out, AN]; rfl)
            have BO : ((r.body.length : Int) == 0) = false := by simpa using he
            have Cq : (r.body.length == 0) = false := by simpa using he
            have Ba : Hid (∀ X, Below wq.heap.size wq X → X.cell? ⟨qr, 2, none⟩ = some (.slice bd r.body.length bp)) := hide fun X hX => (HQ.out.keep (hX.block _ HQ.out.lt)).get (i := 2) rfl
            obtain ⟨bl, Ce⟩ : ∃ bl, r.body.length = bl := ⟨_, rfl⟩
            rw [Ce] at Ba he BO Cq CL q2 BK
            clear AN
            go_wp2_with (refine CL.out.mono ?_; rintro _ w5 ⟨rfl, hb⟩; have Ag := hide hb; have k2 := Ba.out w5 hb; clear hb)
            go_roundw
            case rel => exact ⟨k + 1, by have := HL.out; omega, by go_num, hide (by rw [Al.out]; exact HNq.out.go Ag.out), hide (HBq.out.trans (Ag.out.mono HBq.out.size))⟩
            case measure => have := HL.out; simp [intOf]; omega
       · have AV : k = T.rules.length := by omega
         have Aj : Hid (Nw W.heap.size q us ms rr op n T.rules.length (fi T (kD d1) T.rules.length) (eh T (kD d2) (opK T (kD d2) T.rules.length) T.rules.length) H vs wr5) := hide (by have := HN.out; rw [AV] at this; exact this)
         clear HN
         have c0 := Aj.out.bx.get (i := 0) rfl
         have c1 := Aj.out.bx.get (i := 1) rfl
         have c2 := Aj.out.bx.get (i := 2) rfl
         have c3 := Aj.out.bx.get (i := 3) rfl
         have HX2r := hide (AT.out.keep (HBr.out.block _ AT.out.lt))
         have Dg : bq + 1 < W.heap.size := AT.out.lt
         go_upto_region 21 with fail
         refine wp_region_lit ?_
         refine wpList_plain rfl fun K hK => ?_
         go_simp
         refine hK _ _ ?_
         clear hK
         refine wpList_plain rfl fun K hK => ?_
         refine wp_store_row 178 _ _ rfl (bq + 1) _ rfl rfl _ _ HX2r.out (by kernel_rfl) rfl (by simp [sl, Value.oneCell']) ?_
         refine hK _ _ ?_
         clear hK
         have AK := hide (setRow_heap wr5 (bq + 1) _ #[sl us n, sl ms T.rules.length, sl rr T.rules.length, sl op n] _ _ HX2r.out)
         have CH := hide (Aj.out.far (w' := wr5.setRow (bq + 1) #[sl us n, sl ms T.rules.length, sl rr T.rules.length, sl op n]) (fun g hg _ => setRow_other _ _ _ _ (by omega)) HB.out.size)
         have Cm := hide (kM (b := bq + 1) (HB.out.trans (HBr.out.mono HB.out.size)) (by rw [Cp.out]; omega) #[sl us n, sl ms T.rules.length, sl rr T.rules.length, sl op n])
         generalize wr5.setRow (bq + 1) #[sl us n, sl ms T.rules.length, sl rr T.rules.length, sl op n] = Y at *
         clear Aj HBr c0 c1 c2 c3 HX2r AT
         go_wp2_with fail
         refine bodyPost_ret (v := .agg #[sl us n, sl ms T.rules.length, sl rr T.rules.length, sl op n]) (yT rfl AK.out) rfl ?_
         exact ⟨q, us, ms, rr, op, vs, H, rfl, CH.out, fun z hz => by have := CG.out.u z hz; simpa using this, Cm.out⟩
theorem m8 {w : World} {T : Th} {F : List Int} {n : Nat} {fa ra ba : Option Addr} {fc rc bc : Nat} (h : TA w.heap.size w T fa fc ra rc ba bc) (hp : Pf T F n) :
    Calls Tryz.prog 173 #[tv T fa fc ra rc ba bc, .func (.func 174) #[] #[], .func (.func 174) #[] #[]] w fun o w' => ∃ q us ms rr op vs H, o = .returned (.agg (rS us ms rr op n T.rules.length).toArray) ∧ Nw w.heap.size q us ms rr op n T.rules.length (fi T kS T.rules.length) (eh T kS (opK T kS T.rules.length) T.rules.length) H vs w' ∧ (∀ z : Nat, z < n → (H 0).getD z [] = dQ T kS T.rules.length z) ∧ Below w.heap.size w w' :=
 kR (d1 := fun k => decide (k = 1)) (d2 := fun k => decide (k = 1)) (fun _ _ _ _ => fM) (fun _ _ _ _ => fM) (fun _ e => e) (enters_go Tryz.func174 (by kernel_rfl) (by kernel_rfl)) (enters_go Tryz.func174 (by kernel_rfl) (by kernel_rfl)) h hp
theorem pK {w : World} {T : Th} {F : List Int} {n : Nat} {fa ra ba : Option Addr} {fc rc bc : Nat} (h : TA w.heap.size w T fa fc ra rc ba bc) (hp : Pf T F n) :
    Calls Tryz.prog 173 #[tv T fa fc ra rc ba bc, .func (.func 175) #[] #[], .func (.func 176) #[] #[]] w fun o w' => ∃ q us ms rr op vs H, o = .returned (.agg (rS us ms rr op n T.rules.length).toArray) ∧ Nw w.heap.size q us ms rr op n T.rules.length (fi T kA T.rules.length) (eh T kT (opK T kT T.rules.length) T.rules.length) H vs w' ∧ (∀ z : Nat, z < n → (H 0).getD z [] = dQ T kA T.rules.length z) ∧ Below w.heap.size w w' :=
 kR (d1 := fun _ => true) (d2 := fun k => !decide (k = 3)) (fun _ _ _ _ => tY) (fun _ _ _ _ => fh) (fun _ e => by cases e) (enters_go Tryz.func175 (by kernel_rfl) (by kernel_rfl)) (enters_go Tryz.func176 (by kernel_rfl) (by kernel_rfl)) h hp
end Go.Proofs.YtmlhcncagdfjfaaGreat.Fa
