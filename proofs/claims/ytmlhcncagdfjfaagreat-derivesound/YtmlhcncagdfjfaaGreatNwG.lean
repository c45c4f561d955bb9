import Derived.Test.YtmlhcncagdfjfaaGreatNob
set_option maxRecDepth 100000
set_option maxHeartbeats 12800000
namespace Go.Proofs.YtmlhcncagdfjfaaGreat.Fa
open Go.RowKit Rg
def kD (d : Int → Bool) (r : RuleM) : Bool := d r.kind
theorem ly {f1 f2 : FuncId} {d1 d2 : Int → Bool} (C1 : ∀ (w : World) (k h : Int) (v : Value), Calls Tryz.prog f1 #[.agg #[.int .i64 k, .int .i64 h, v]] w fun o w' => o = .returned (.bool (d1 k)) ∧ Below w.heap.size w w') (C2 : ∀ (w : World) (k h : Int) (v : Value), Calls Tryz.prog f2 #[.agg #[.int .i64 k, .int .i64 h, v]] w fun o w' => o = .returned (.bool (d2 k)) ∧ Below w.heap.size w w') (himp : ∀ k, d1 k = false → d2 k = false) (E1 : ∀ args w', (callFunc f1 args).run Tryz.prog w' = .ok (.enter f1 args) w') (E2 : ∀ args w', (callFunc f2 args).run Tryz.prog w' = .ok (.enter f2 args) w') {w : World} {T : Th} {F : List Int} {n : Nat} {fa ra ba : Option Addr} {fc rc bc : Nat} (h : TA w.heap.size w T fa fc ra rc ba bc) (hp : Pf T F n) :
    Calls Tryz.prog 173 #[tv T fa fc ra rc ba bc, .func (.func f1) #[] #[], .func (.func f2) #[] #[]] w fun o w' => ∃ q us ms rr op vs H, o = .returned (.agg (rR us ms rr op n T.rules.length).toArray) ∧ Nw w.heap.size q us ms rr op n T.rules.length (fi T (kD d1) T.rules.length) (eh T (kD d2) (opK T (kD d2) T.rules.length) T.rules.length) H vs w' ∧ (∀ z : Nat, z < n → (H 0).getD z [] = dN T (kD d1) T.rules.length z) ∧ Below w.heap.size w w' := by
 obtain ⟨iL, Cp, CG, CC, CH⟩ := info_parts nL
 obtain ⟨iB, CI, Ci, CB, Cj⟩ := info_parts jt
 obtain ⟨iI, Bx, Bj, Bw, Bv⟩ := info_parts gB
 have CX := hp.n4
 have Dn : T.rules.length ≤ 4096 := hp.ok.rl
 have Cd : ∀ W, (Instr.makeSlice 22 (.int .i64 T.lits) (.int .i64 T.lits)).run Tryz.prog W = .ok (sl W.heap.size n) (W.alloc (.cells (Array.replicate n (.slice none 0 0)) 26)) := fun W => by rw [hp.ln]; exact aH (P := Tryz.prog) Tryz.underlying22 Cp CG CC rfl n (by rw [CH]; omega) (by unfold maxLen; omega) W
 have BI : ∀ W, (Instr.makeSlice 26 (.int .i64 T.lits) (.int .i64 T.lits)).run Tryz.prog W = .ok (sl W.heap.size n) (W.alloc (.cells (Array.replicate n (.int .i64 0)) 3)) := fun W => by rw [hp.ln]; exact aH (P := Tryz.prog) Tryz.underlying26 Bx Bj Bw rfl n (by rw [Bv]; omega) (by unfold maxLen; omega) W
 have BR : ∀ W, (Instr.makeSlice 26 (.int .i64 T.rules.length) (.int .i64 T.rules.length)).run Tryz.prog W = .ok (sl W.heap.size T.rules.length) (W.alloc (.cells (Array.replicate T.rules.length (.int .i64 0)) 3)) := fun W => aH (P := Tryz.prog) Tryz.underlying26 Bx Bj Bw rfl T.rules.length (by rw [Bv]; omega) (by unfold maxLen; omega) W
 have BU : ∀ W, (Instr.makeSlice 106 (.int .i64 T.rules.length) (.int .i64 T.rules.length)).run Tryz.prog W = .ok (sl W.heap.size T.rules.length) (W.alloc (.cells (Array.replicate T.rules.length (.bool false)) 4)) := fun W => aH (P := Tryz.prog) Tryz.underlying106 CI Ci CB rfl T.rules.length (by rw [Cj]; omega) (by unfold maxLen; omega) W
 have Bh := ae w (.cells #[.int .i64 T.lits, .slice fa T.foes.length fc, .slice ra T.rules.length rc, .slice ba T.beats.length bc] 25)
 have Bs := ae (w.alloc (.cells #[.int .i64 T.lits, .slice fa T.foes.length fc, .slice ra T.rules.length rc, .slice ba T.beats.length bc] 25)) (.cells #[.slice none 0 0, .slice none 0 0, .slice none 0 0, .slice none 0 0] 178)
 have hB := Bh.trans (Bs.mono Bh.size)
 have Cb : Fx w.heap.size 25 [.int .i64 T.lits, .slice fa T.foes.length fc, .slice ra T.rules.length rc, .slice ba T.beats.length bc] ((w.alloc (.cells #[.int .i64 T.lits, .slice fa T.foes.length fc, .slice ra T.rules.length rc, .slice ba T.beats.length bc] 25)).alloc (.cells #[.slice none 0 0, .slice none 0 0, .slice none 0 0, .slice none 0 0] 178)) := (Bs.block _ (by simp)).trans (heap_alloc_new w _)
 have BE : Fx (w.heap.size + 1) 178 [.slice none 0 0, .slice none 0 0, .slice none 0 0, .slice none 0 0] ((w.alloc (.cells #[.int .i64 T.lits, .slice fa T.foes.length fc, .slice ra T.rules.length rc, .slice ba T.beats.length bc] 25)).alloc (.cells #[.slice none 0 0, .slice none 0 0, .slice none 0 0, .slice none 0 0] 178)) := by
  have := heap_alloc_new (w.alloc (.cells #[.int .i64 T.lits, .slice fa T.foes.length fc, .slice ra T.rules.length rc, .slice ba T.beats.length bc] 25)) (.cells #[.slice none 0 0, .slice none 0 0, .slice none 0 0, .slice none 0 0] 178)
  simpa [Fx] using this
 have Bq := hide (TR.go hB h)
 have HP := hide hp
 have H1 := hide C1
 have H2 := hide C2
 have HI := hide himp
 clear C1 C2 himp
 have HB := hide hB
 have AA := hide Cb
 have AU := hide BE
 clear h hp hB Bh Bs
 go_enter Tryz.func173, Tryz.ntmps173
 go_upto_region 1 with fail
 clear Cb BE
 generalize (w.alloc (.cells #[.int .i64 T.lits, .slice fa T.foes.length fc, .slice ra T.rules.length rc, .slice ba T.beats.length bc] 25)).alloc (.cells #[.slice none 0 0, .slice none 0 0, .slice none 0 0, .slice none 0 0] 178) = W at *
 obtain ⟨bq, Bt⟩ : ∃ bq, w.heap.size = bq := ⟨_, rfl⟩
 have Ck := hide Bt
 rw [Bt] at AA AU ⊢
 clear Bt
 have HDr := hide ((Below.refl W.heap.size W).drew)
 obtain ⟨W0, By⟩ : ∃ W0, W.drew = W0 := ⟨_, rfl⟩
 have HX1d := hide (AA.out.keep (HDr.out.block _ AA.out.lt))
 have Ae : Hid (fQ [some 14, some 15, some 16, some 17, some 18, some 19, some 20, some 21, some 22, some 23, some 24, some 25, some 26, some 27, some 28, some 7, none] [(3, aa bq)] = true) := hide rfl
 rw [By] at HX1d HDr
 have Af : Hid (∀ X, Below W0.heap.size W0 X → X.cell? ⟨bq, 0, none⟩ = some (.int .i64 T.lits) ∧ X.cell? ⟨bq, 2, none⟩ = some (.slice ra T.rules.length rc)) := hide fun X hX => by
  have hf := HX1d.out.keep (hX.block _ HX1d.out.lt)
  exact ⟨hf.get (i := 0) rfl, hf.get (i := 2) rfl⟩
 refine bW fY (Jl 16 [some 14, some 15, some 16, some 17, some 18, some 19, some 20, some 21, some 22, some 23, some 24, some 25, some 26, some 27, some 28, some 7, none] [(3, aa bq)] (xe T.rules.length ra rc T bq n W0.heap.size) (yP T.rules.length n W0) W0) (by kernel_rfl) (by kernel_rfl) ?_ (ci ⟨?_, ?_, ?_, ?_, ?_, ?_, ?_, ?_, ?_, ?_, ?_, ?_, ?_, ?_, ?_, ?_, ?_, trivial⟩) ?_ ?_
 ·refine ⟨fun _ => ?_, fun e => by cases e⟩
  show Jg _ _ _ W0 _ _ W.drew
  rw [By]
  exact Jg.start.2 fun p hp => by simp at hp; subst hp; rfl
 ·intro ρ X L hc hf hL hd Ab Ac
  have Aa : L 16 = false := ak (by kernel_rfl) Ab (k := 0) (by simp) hL
  have hJ := Ac.1 Aa
  obtain ⟨c0, c2⟩ := Af.out X hJ.low
  have k3 : ρ (.tmp 3) = aa bq := hJ.base (3, aa bq) (by simp)
  refine ac (v := aa bq) (w' := X) ?_ ⟨fun _ => hJ.put Ae.out cN (i := 0) (d := 14) rfl (Below.refl _ _) (rfl), fun e => by rw [al (by decide), Aa] at e; cases e⟩
  clear hd Ab hJ Ac hL Aa
  go_simp
 ·intro ρ X L hc hf hL hd Ab Ac
  have Aa : L 16 = false := ak (by kernel_rfl) Ab (k := 1) (by simp) hL
  have hJ := Ac.1 Aa
  obtain ⟨c0, c2⟩ := Af.out X hJ.low
  obtain ⟨_, _, _, e1⟩ := hJ.get (i := 0) (d := 14) rfl (hd ⟨0, .data⟩ (by simp) rfl)
  have CN : ρ (.tmp 14) = aa bq := e1
  clear e1
  refine ac (v := .int .i64 T.lits) (w' := X) ?_ ⟨fun _ => hJ.put Ae.out cN (i := 1) (d := 15) rfl (Below.refl _ _) (rfl), fun e => by rw [al (by decide), Aa] at e; cases e⟩
  clear hd Ab hJ Ac hL Aa
  go_simp
 ·intro ρ X L hc hf hL hd Ab Ac
  have Aa : L 16 = false := ak (by kernel_rfl) Ab (k := 2) (by simp) hL
  have hJ := Ac.1 Aa
  obtain ⟨c0, c2⟩ := Af.out X hJ.low
  obtain ⟨_, _, _, e1⟩ := hJ.get (i := 1) (d := 15) rfl (hd ⟨1, .data⟩ (by simp) rfl)
  have Dk : ρ (.tmp 15) = .int .i64 T.lits := e1
  have Br := Cd X
  clear e1
  refine ac (v := sl X.heap.size n) (w' := X.alloc (.cells (Array.replicate n (.slice none 0 0)) 26)) ?_ ⟨fun _ => hJ.put Ae.out cN (i := 2) (d := 16) rfl (ae X _) (⟨X.heap.size, rfl, by unfold Fx; rw [heap_alloc_new]; simp, Nat.le_refl _, by simp, hJ.low.size⟩), fun e => by rw [al (by decide), Aa] at e; cases e⟩
  clear hd Ab hJ Ac hL Aa
  go_simp
 ·intro ρ X L hc hf hL hd Ab Ac
  have Aa : L 16 = false := ak (by kernel_rfl) Ab (k := 3) (by simp) hL
  have hJ := Ac.1 Aa
  obtain ⟨c0, c2⟩ := Af.out X hJ.low
  have k3 : ρ (.tmp 3) = aa bq := hJ.base (3, aa bq) (by simp)
  refine ac (v := .pointer (some ⟨bq, 2, none⟩)) (w' := X) ?_ ⟨fun _ => hJ.put Ae.out cN (i := 3) (d := 17) rfl (Below.refl _ _) (rfl), fun e => by rw [al (by decide), Aa] at e; cases e⟩
  clear hd Ab hJ Ac hL Aa
  go_simp
 ·intro ρ X L hc hf hL hd Ab Ac
  have Aa : L 16 = false := ak (by kernel_rfl) Ab (k := 4) (by simp) hL
  have hJ := Ac.1 Aa
  obtain ⟨c0, c2⟩ := Af.out X hJ.low
  obtain ⟨_, _, _, e1⟩ := hJ.get (i := 3) (d := 17) rfl (hd ⟨3, .data⟩ (by simp) rfl)
  have CR : ρ (.tmp 17) = .pointer (some ⟨bq, 2, none⟩) := e1
  clear e1
  refine ac (v := .slice ra T.rules.length rc) (w' := X) ?_ ⟨fun _ => hJ.put Ae.out cN (i := 4) (d := 18) rfl (Below.refl _ _) (rfl), fun e => by rw [al (by decide), Aa] at e; cases e⟩
  clear hd Ab hJ Ac hL Aa
  go_simp
 ·intro ρ X L hc hf hL hd Ab Ac
  have Aa : L 16 = false := ak (by kernel_rfl) Ab (k := 5) (by simp) hL
  have hJ := Ac.1 Aa
  obtain ⟨c0, c2⟩ := Af.out X hJ.low
  obtain ⟨_, _, _, e1⟩ := hJ.get (i := 4) (d := 18) rfl (hd ⟨4, .data⟩ (by simp) rfl)
  have Dl : ρ (.tmp 18) = .slice ra T.rules.length rc := e1
  clear e1
  refine ac (v := .int .i64 T.rules.length) (w' := X) ?_ ⟨fun _ => hJ.put Ae.out cN (i := 5) (d := 19) rfl (Below.refl _ _) (rfl), fun e => by rw [al (by decide), Aa] at e; cases e⟩
  clear hd Ab hJ Ac hL Aa
  go_simp
 ·intro ρ X L hc hf hL hd Ab Ac
  have Aa : L 16 = false := ak (by kernel_rfl) Ab (k := 6) (by simp) hL
  have hJ := Ac.1 Aa
  obtain ⟨c0, c2⟩ := Af.out X hJ.low
  obtain ⟨_, _, _, e1⟩ := hJ.get (i := 5) (d := 19) rfl (hd ⟨5, .data⟩ (by simp) rfl)
  have CS : ρ (.tmp 19) = .int .i64 T.rules.length := e1
  have Br := BR X
  clear e1
  refine ac (v := sl X.heap.size T.rules.length) (w' := X.alloc (.cells (Array.replicate T.rules.length (.int .i64 0)) 3)) ?_ ⟨fun _ => hJ.put Ae.out cN (i := 6) (d := 20) rfl (ae X _) (⟨X.heap.size, rfl, by unfold Fx; rw [heap_alloc_new, lW], Nat.le_refl _, by simp, hJ.low.size⟩), fun e => by rw [al (by decide), Aa] at e; cases e⟩
  clear hd Ab hJ Ac hL Aa
  go_simp
 ·intro ρ X L hc hf hL hd Ab Ac
  have Aa : L 16 = false := ak (by kernel_rfl) Ab (k := 7) (by simp) hL
  have hJ := Ac.1 Aa
  obtain ⟨c0, c2⟩ := Af.out X hJ.low
  have k3 : ρ (.tmp 3) = aa bq := hJ.base (3, aa bq) (by simp)
  refine ac (v := .pointer (some ⟨bq, 2, none⟩)) (w' := X) ?_ ⟨fun _ => hJ.put Ae.out cN (i := 7) (d := 21) rfl (Below.refl _ _) (rfl), fun e => by rw [al (by decide), Aa] at e; cases e⟩
  clear hd Ab hJ Ac hL Aa
  go_simp
 ·intro ρ X L hc hf hL hd Ab Ac
  have Aa : L 16 = false := ak (by kernel_rfl) Ab (k := 8) (by simp) hL
  have hJ := Ac.1 Aa
  obtain ⟨c0, c2⟩ := Af.out X hJ.low
  obtain ⟨_, _, _, e1⟩ := hJ.get (i := 7) (d := 21) rfl (hd ⟨7, .data⟩ (by simp) rfl)
  have Dp : ρ (.tmp 21) = .pointer (some ⟨bq, 2, none⟩) := e1
  clear e1
  refine ac (v := .slice ra T.rules.length rc) (w' := X) ?_ ⟨fun _ => hJ.put Ae.out cN (i := 8) (d := 22) rfl (Below.refl _ _) (rfl), fun e => by rw [al (by decide), Aa] at e; cases e⟩
  clear hd Ab hJ Ac hL Aa
  go_simp
 ·intro ρ X L hc hf hL hd Ab Ac
  have Aa : L 16 = false := ak (by kernel_rfl) Ab (k := 9) (by simp) hL
  have hJ := Ac.1 Aa
  obtain ⟨c0, c2⟩ := Af.out X hJ.low
  obtain ⟨_, _, _, e1⟩ := hJ.get (i := 8) (d := 22) rfl (hd ⟨8, .data⟩ (by simp) rfl)
  have Dh : ρ (.tmp 22) = .slice ra T.rules.length rc := e1
  clear e1
  refine ac (v := .int .i64 T.rules.length) (w' := X) ?_ ⟨fun _ => hJ.put Ae.out cN (i := 9) (d := 23) rfl (Below.refl _ _) (rfl), fun e => by rw [al (by decide), Aa] at e; cases e⟩
  clear hd Ab hJ Ac hL Aa
  go_simp
 ·intro ρ X L hc hf hL hd Ab Ac
  have Aa : L 16 = false := ak (by kernel_rfl) Ab (k := 10) (by simp) hL
  have hJ := Ac.1 Aa
  obtain ⟨c0, c2⟩ := Af.out X hJ.low
  obtain ⟨_, _, _, e1⟩ := hJ.get (i := 9) (d := 23) rfl (hd ⟨9, .data⟩ (by simp) rfl)
  have Db : ρ (.tmp 23) = .int .i64 T.rules.length := e1
  have Br := BU X
  clear e1
  refine ac (v := sl X.heap.size T.rules.length) (w' := X.alloc (.cells (Array.replicate T.rules.length (.bool false)) 4)) ?_ ⟨fun _ => hJ.put Ae.out cN (i := 10) (d := 24) rfl (ae X _) (⟨X.heap.size, rfl, by unfold Fx cq; rw [heap_alloc_new]; simp [List.map_const'], Nat.le_refl _, by simp, hJ.low.size⟩), fun e => by rw [al (by decide), Aa] at e; cases e⟩
  clear hd Ab hJ Ac hL Aa
  go_simp
 ·intro ρ X L hc hf hL hd Ab Ac
  have Aa : L 16 = false := ak (by kernel_rfl) Ab (k := 11) (by simp) hL
  have hJ := Ac.1 Aa
  obtain ⟨c0, c2⟩ := Af.out X hJ.low
  have k3 : ρ (.tmp 3) = aa bq := hJ.base (3, aa bq) (by simp)
  refine ac (v := aa bq) (w' := X) ?_ ⟨fun _ => hJ.put Ae.out cN (i := 11) (d := 25) rfl (Below.refl _ _) (rfl), fun e => by rw [al (by decide), Aa] at e; cases e⟩
  clear hd Ab hJ Ac hL Aa
  go_simp
 ·intro ρ X L hc hf hL hd Ab Ac
  have Aa : L 16 = false := ak (by kernel_rfl) Ab (k := 12) (by simp) hL
  have hJ := Ac.1 Aa
  obtain ⟨c0, c2⟩ := Af.out X hJ.low
  obtain ⟨_, _, _, e1⟩ := hJ.get (i := 11) (d := 25) rfl (hd ⟨11, .data⟩ (by simp) rfl)
  have CU : ρ (.tmp 25) = aa bq := e1
  clear e1
  refine ac (v := .int .i64 T.lits) (w' := X) ?_ ⟨fun _ => hJ.put Ae.out cN (i := 12) (d := 26) rfl (Below.refl _ _) (rfl), fun e => by rw [al (by decide), Aa] at e; cases e⟩
  clear hd Ab hJ Ac hL Aa
  go_simp
 ·intro ρ X L hc hf hL hd Ab Ac
  have Aa : L 16 = false := ak (by kernel_rfl) Ab (k := 13) (by simp) hL
  have hJ := Ac.1 Aa
  obtain ⟨c0, c2⟩ := Af.out X hJ.low
  obtain ⟨_, _, _, e1⟩ := hJ.get (i := 12) (d := 26) rfl (hd ⟨12, .data⟩ (by simp) rfl)
  have CY : ρ (.tmp 26) = .int .i64 T.lits := e1
  have Br := BI X
  clear e1
  refine ac (v := sl X.heap.size n) (w' := X.alloc (.cells (Array.replicate n (.int .i64 0)) 3)) ?_ ⟨fun _ => hJ.put Ae.out cN (i := 13) (d := 27) rfl (ae X _) (⟨X.heap.size, rfl, by unfold Fx; rw [heap_alloc_new, lW], Nat.le_refl _, by simp, hJ.low.size⟩), fun e => by rw [al (by decide), Aa] at e; cases e⟩
  clear hd Ab hJ Ac hL Aa
  go_simp
 ·intro ρ X L hc hf hL hd Ab Ac
  have Aa : L 16 = false := ak (by kernel_rfl) Ab (k := 14) (by simp) hL
  have hJ := Ac.1 Aa
  obtain ⟨c0, c2⟩ := Af.out X hJ.low
  obtain ⟨lo, hi, AR, Bu⟩ := hJ.at_
  have l2 : L 2 = true := hd ⟨2, .data⟩ (by simp) rfl
  have l6 : L 6 = true := hd ⟨6, .data⟩ (by simp) rfl
  have Cy : L 10 = true := hd ⟨10, .data⟩ (by simp) rfl
  have BM : L 13 = true := hd ⟨13, .data⟩ (by simp) rfl
  obtain ⟨-, -, -, g0, e3, f3, a3, b3, n3⟩ := AR 2 16 rfl l2
  obtain ⟨-, -, -, g1, e6, f6, a6, b6, n6⟩ := AR 6 20 rfl l6
  obtain ⟨-, -, -, g2, e9, f9, a9, b9, n9⟩ := AR 10 24 rfl Cy
  obtain ⟨-, -, -, g3, Cc, BX, De, Dc, Cs⟩ := AR 13 27 rfl BM
  have d1 := Bu 6 13 20 27 rfl rfl (by decide) l6 BM
  have CQ : ρ (.tmp 16) = sl g0 n := e3
  have CV : ρ (.tmp 20) = sl g1 T.rules.length := e6
  have Dm : ρ (.tmp 24) = sl g2 T.rules.length := e9
  have Dd : ρ (.tmp 27) = sl g3 n := Cc
  refine ac (v := .agg #[sl g0 n, sl g1 T.rules.length, sl g2 T.rules.length, sl g3 n]) (w' := X) ?_ ⟨fun _ => hJ.put Ae.out cN (i := 14) (d := 28) rfl (Below.refl _ _) (⟨g0, g1, g2, g3, rfl, f3, f6, f9, BX, ⟨n3, n6, n9, Cs⟩, by omega⟩), fun e => by rw [al (by decide), Aa] at e; cases e⟩
  clear hd Ab hJ Ac hL Aa AR Bu d1 e3 e6 e9 Cc f3 f6 f9 BX
  go_simp
 ·intro ρ X L hc hf hL hd Ab Ac
  have Aa : L 16 = false := ak (by kernel_rfl) Ab (k := 15) (by simp) hL
  have hJ := Ac.1 Aa
  obtain ⟨c0, c2⟩ := Af.out X hJ.low
  refine ac (v := aa X.heap.size) (w' := X.alloc (.cells #[.slice none 0 0, .slice none 0 0, .slice none 0 0, .slice none 0 0] 178)) ?_ ⟨fun _ => hJ.put Ae.out cN (i := 15) (d := 7) rfl (ae X _) (⟨X.heap.size, [.slice none 0 0, .slice none 0 0, .slice none 0 0, .slice none 0 0], rfl, heap_alloc_new X _, rfl, hJ.low.size⟩), fun e => by rw [al (by decide), Aa] at e; cases e⟩
  clear hd Ab hJ Ac hL Aa
  go_simp
 ·intro ρ X L hc hf hL hd Ab Ac
  have hJ := Ac.1 hL
  obtain ⟨_, _, _, g0, g1, g2, g3, BH, f0, f1, f2, f3, ⟨m0, m1, m2, m3⟩, d1⟩ := hJ.get (i := 14) (d := 28) rfl (hd ⟨14, .data⟩ (by simp) rfl)
  obtain ⟨_, _, _, q, xs, e7, h0, Cm, hq⟩ := hJ.get (i := 15) (d := 7) rfl (hd ⟨15, .data⟩ (by simp) rfl)
  obtain ⟨t0, t1, t2, t3, rfl⟩ : ∃ t0 t1 t2 t3, xs = [t0, t1, t2, t3] := by
   match xs, Cm with
   | [t0, t1, t2, t3], _ => exact ⟨t0, t1, t2, t3, rfl⟩
  have Df : ρ (.tmp 28) = .agg #[sl g0 n, sl g1 T.rules.length, sl g2 T.rules.length, sl g3 n] := BH
  have k7 : ρ (.tmp 7) = aa q := e7
  have y0 := h0.get (i := 0) (v := t0) rfl
  have z0 := h0.frz 0
  have h1 := h0.set 0 (sl g0 n)
  have y1 := h1.get (i := 1) (v := t1) rfl
  have z1 := h1.frz 1
  have h2 := h1.set 1 (sl g1 T.rules.length)
  have y2 := h2.get (i := 2) (v := t2) rfl
  have z2 := h2.frz 2
  have h3 := h2.set 2 (sl g2 T.rules.length)
  have y3 := h3.get (i := 3) (v := t3) rfl
  have z3 := h3.frz 3
  have h4 := h3.set 3 (sl g3 n)
  have kp : ∀ {g t : Nat} {xs : List Value}, Fx g t xs X → t ≠ 178 → Fx g t xs ((((X.setCell ⟨q, 0, none⟩ (sl g0 n)).setCell ⟨q, 1, none⟩ (sl g1 T.rules.length)).setCell ⟨q, 2, none⟩ (sl g2 T.rules.length)).setCell ⟨q, 3, none⟩ (sl g3 n)) := fun hx ht => by
   have CD := an hx h0 ht
   exact hx.keep (by simp only [other_set CD])
  have AJ : Hid (yP T.rules.length n W0 (fA (fun s => ρ (.tmp s)) none undef) ((((X.setCell ⟨q, 0, none⟩ (sl g0 n)).setCell ⟨q, 1, none⟩ (sl g1 T.rules.length)).setCell ⟨q, 2, none⟩ (sl g2 T.rules.length)).setCell ⟨q, 3, none⟩ (sl g3 n))) := hide ⟨q, g0, g1, g2, g3, by rw [eY (by simp)]; exact k7, ⟨h4, kp f1 (by decide), kp f2 (by decide), kp f3 (by decide), vm (kp f0 (by decide)) m0, ⟨hq, m1, m2, m3⟩, d1, fun i v hv => by rw [List.getElem?_replicate] at hv; split at hv <;> cases hv; exact ⟨fun e => (by cases e), fun e => (by cases e)⟩⟩, ((((hJ.low.setCell (p := ⟨q, 0, none⟩) hq _).setCell (p := ⟨q, 1, none⟩) hq _).setCell (p := ⟨q, 2, none⟩) hq _).setCell (p := ⟨q, 3, none⟩) hq _)⟩
  refine bY (w' := ((((X.setCell ⟨q, 0, none⟩ (sl g0 n)).setCell ⟨q, 1, none⟩ (sl g1 T.rules.length)).setCell ⟨q, 2, none⟩ (sl g2 T.rules.length)).setCell ⟨q, 3, none⟩ (sl g3 n))) ?_ ⟨fun e => (by rw [aF] at e; cases e), fun _ => AJ.out⟩
  clear hd Ab hJ Ac hL kp AJ f0 f1 f2 f3 h1 h2 h3 h4 h0 BH e7
  go_simp
 ·intro c a' w' _ hE
  exact hE.elim
 rintro ⟨Ad, df⟩ w' AC AV ⟨L, hL, hJ⟩ Ay
 simp only at AV AC
 subst AV
 obtain ⟨q, us, ms, rr, op, e7, BF, BL⟩ := hJ.2 (hL 16 (by decide))
 have e7 : Ad.getD 7 undef = aa q := e7
 have Ax := en 14 28 7 (by kernel_rfl) AC Ay
 simp only [zs, Nat.reduceLT, Nat.reduceAdd, true_or, or_true, or_self, false_and, ne_eq, Nat.reduceEqDiff, not_false_eq_true, not_true_eq_false, and_self, and_false, if_true, if_false, e7] at Ax
 rw [Ax]
 clear Ax hJ hL Ay AC e7 Cd BU BI BR Af Ae
 generalize Ad.getD 14 undef = x14
 generalize Ad.getD 15 undef = x15
 generalize Ad.getD 16 undef = x16
 generalize Ad.getD 17 undef = x17
 generalize Ad.getD 18 undef = x18
 generalize Ad.getD 19 undef = x19
 generalize Ad.getD 20 undef = x20
 generalize Ad.getD 21 undef = x21
 generalize Ad.getD 22 undef = x22
 generalize Ad.getD 23 undef = x23
 generalize Ad.getD 24 undef = x24
 generalize Ad.getD 25 undef = x25
 generalize Ad.getD 26 undef = x26
 generalize Ad.getD 27 undef = x27
 generalize Ad.getD 28 undef = x28
 have Aj := hide BF
 have Au : Hid (Below W.heap.size W w') := hide (HDr.out.trans (BL.mono HDr.out.size))
 have Bm : W0.heap.size = W.heap.size := by rw [← By]; rfl
 rw [Bm] at Aj
 clear BF BL Bm HDr HX1d
 have c2 := (AA.out.keep (Au.out.block _ AA.out.lt)).get (i := 2) rfl
 go_wp2_with fail
 clear c2
 go_loopw [32] (fun x wr => ∃ (k : Nat) (H : Nat → List (List Int)) (vs : Nat → List Value), k ≤ T.rules.length ∧ x = .int .i64 k ∧ Hid (Gu T (kD d1) n k 0 H) ∧ Hid (Nw W.heap.size q us ms rr op n T.rules.length (fi T (kD d1) k) (opK T (kD d2) k) H vs wr) ∧ Hid (Below W.heap.size W wr)) (fun x _ => T.rules.length - (intOf x).toNat)
 case atStart => exact ⟨0, _, _, by omega, rfl, hide Gu.start, Aj, Au⟩
 clear Aj Au
 obtain ⟨k, H, vs, hk, rfl, HG, HN, HBr⟩ := hrel
 by_cases At : k < T.rules.length
 ·obtain ⟨r, hr⟩ := am At
  obtain ⟨h0, h1⟩ := HP.out.head r (List.mem_of_getElem? hr)
  obtain ⟨hm, Aw⟩ := Int.eq_ofNat_of_zero_le h0
  have AM : hm < n := by omega
  have AP : aj T k = (hm : Int) := by unfold aj; rw [Int.toNat_natCast, hr]; exact Aw
  have BT : aR T (kD d1) k = (kD d1) r := by unfold aR; rw [Int.toNat_natCast, hr]; rfl
  have AS : aR T (kD d2) k = (kD d2) r := by unfold aR; rw [Int.toNat_natCast, hr]; rfl
  have AT : az T k = r.body := by unfold az; rw [Int.toNat_natCast, hr]; rfl
  have hR := TR.keep HBr.out.block Bq.out
  obtain ⟨gr, go, bd, bp, rfl, Bi, x0, x1, x2, -, BQ, AI⟩ := dG hR.rules hr
  have CK : r.body.length ≤ 16 := (HP.out.ok.rule r (List.mem_of_getElem? hr)).2.2.2.2.1
  have Ch : Hid r.body.Nodup := hide (eJ (bS (by omega) (HP.out.ok.rule r (List.mem_of_getElem? hr)).2.2.2.2.2).2)
  have Cl : Hid (∀ x ∈ r.body, 0 ≤ x ∧ x < (n : Int)) := hide (HP.out.body r (List.mem_of_getElem? hr))
  have Cz : Hid (∀ X, Below W.heap.size W X → At1 X bd (aq r.body)) := hide fun X hX => by
   have h2 := TR.keep hX.block Bq.out
   obtain ⟨g3, o3, b3, p3, e3, BP, -, -, x3, -, -, Co⟩ := dG h2.rules hr
   cases e3
   have e4 : wr.cell? ⟨gr, go + k * 3 + 2, none⟩ = X.cell? ⟨gr, go + k * 3 + 2, none⟩ := (World.cell?_of_block (HBr.out.block gr BP)).trans (World.cell?_of_block (hX.block gr BP)).symm
   rw [x2, x3] at e4
   cases e4
   exact Co.at1
  rw [Aw] at x1
  have AD := ae wr (.cells #[.int .i64 r.kind, .int .i64 hm, .slice bd r.body.length bp] 114)
  have HQ : Hid (Fx wr.heap.size 114 [.int .i64 r.kind, .int .i64 hm, .slice bd r.body.length bp] (wr.alloc (.cells #[.int .i64 r.kind, .int .i64 hm, .slice bd r.body.length bp] 114))) := hide (heap_alloc_new wr _)
  have HNq := hide (HN.out.go AD)
  have HBq := hide (HBr.out.trans (AD.mono HBr.out.size))
  have HRr := hide hr
  have BA := hide AP
  have BW := hide BT
  have AB := hide AS
  have Bd := hide AT
  have HL := hide At
  clear hr h0 h1 Aw hR AD AI HN HBr Bi AP BT AS AT
  go_upto_region 5 with fail
  clear x0 x1 x2
  generalize wr.alloc (.cells #[.int .i64 r.kind, .int .i64 hm, .slice bd r.body.length bp] 114) = wq at *
  obtain ⟨qr, AN⟩ : ∃ qr, wr.heap.size = qr := ⟨_, rfl⟩
  rw [AN] at HQ ⊢
  clear AN
  have q0 := HQ.out.get (i := 0) rfl
  have q1 := HQ.out.get (i := 1) rfl
  have q2 := HQ.out.get (i := 2) rfl
  have CW := hide (H1.out wq r.kind (hm : Int) (.slice bd r.body.length bp))
  cases htk : d1 r.kind with
  | false =>
   have AE : Hid (kD d1 r = false) := hide htk
   have AL : Hid (fi T (kD d1) (k + 1) = fi T (kD d1) k) := hide (by rw [mr, BW.out, if_neg (by rw [AE.out]; decide)])
   have Al : Hid (opK T (kD d2) (k + 1) = opK T (kD d2) k) := hide (by rw [jX, AB.out, if_neg (by rw [show kD d2 r = false from HI.out _ AE.out]; decide)])
   rw [htk] at CW
   clear htk
   go_wp2_with (refine CW.out.mono ?_; rintro _ w3 ⟨rfl, hb⟩; have Aq := hide hb; clear hb)
   go_roundw
   case rel => exact ⟨k + 1, _, _, by have := HL.out; omega, by go_num, hide (HG.out.none HRr.out AE.out), hide (by rw [AL.out, Al.out]; exact HNq.out.go Aq.out), hide (HBq.out.trans (Aq.out.mono HBq.out.size))⟩
   case measure => have := HL.out; simp [intOf]; omega
  | true =>
   have AE : Hid (kD d1 r = true) := hide htk
   rw [htk] at CW
   clear htk
   have AL : Hid (fi T (kD d1) (k + 1) = aA (fi T (kD d1) k) k (r.body.length : Nat)) := hide (by rw [mr, BW.out, Bd.out, if_pos AE.out])
   go_upto_region 6 with (refine CW.out.mono ?_; rintro _ w3 ⟨rfl, hb⟩; have Aq := hide hb; clear hb)
   have Av := hide (HNq.out.go Aq.out)
   have AH := hide (HQ.out.keep (Aq.out.block _ HQ.out.lt))
   have BG := hide (HBq.out.trans (Aq.out.mono HBq.out.size))
   clear HNq HQ HBq Aq q0 q1 q2 CW
   have s1 := Av.out.bx.get (i := 1) rfl
   have q2 := AH.out.get (i := 2) rfl
   have cm := Av.out.fm.get (aY HL.out)
   have zm := Av.out.fm.frz k
   have BB := hide (Av.out.setM HL.out (r.body.length : Nat))
   have BD := hide (AH.out.keep (w' := w3.setCell ⟨ms, k, none⟩ (.int .i64 (r.body.length : Nat))) (other_set (an AH.out Av.out.fm (by decide))))
   have BS := hide (BG.out.setCell (p := ⟨ms, k, none⟩) Av.out.lo.2.1 (.int .i64 (r.body.length : Nat)))
   have q2' := BD.out.get (i := 2) rfl
   obtain ⟨Ba, Bp⟩ : ∃ Ba, aA (fi T (kD d1) k) k (r.body.length : Nat) = Ba := ⟨_, rfl⟩
   rw [Bp] at BB AL
   clear Av AH BG Bp
   go_wp2_with fail
   clear s1 q2 cm zm q2'
   go_loopw [51] (fun x wr => ∃ (j : Nat) (H : Nat → List (List Int)) (vs : Nat → List Value), j ≤ r.body.length ∧ x = .int .i64 j ∧ Hid (Gu T (kD d1) n k j H) ∧ Hid (Nw W.heap.size q us ms rr op n T.rules.length Ba (opK T (kD d2) k) H vs wr) ∧ Hid (Below W.heap.size W wr) ∧ Hid (Fx qr 114 [.int .i64 r.kind, .int .i64 hm, .slice bd r.body.length bp] wr)) (fun x _ => r.body.length - (intOf x).toNat)
   case atStart => exact ⟨0, _, _, by omega, rfl, HG, BB, BS, BD⟩
   clear HG BB BS BD
   rename World => wr3
   obtain ⟨j, H, vs, hj, rfl, HG, HN, HBq, HQ⟩ := hrel
   by_cases hjl : j < r.body.length
   ·obtain ⟨x0, hx⟩ := am hjl
    obtain ⟨y0, y1⟩ := Cl.out x0 (List.mem_of_getElem? hx)
    obtain ⟨x, rfl⟩ := Int.eq_ofNat_of_zero_le y0
    have Bo : x < n := by omega
    obtain ⟨gx, ox, rfl, cx⟩ := (Cz.out wr3 HBq.out).get hx
    have HXx := hide hx
    have Ce : Hid (∀ (c i : Nat) (l : List Int), c < 1 → (H c)[i]? = some l → l.length ≤ 4096) := hide fun c i l hc hl => HG.out.len (by have := HL.out; omega) (z := i) (by rw [← (show c = 0 by omega)]; exact hl)
    clear hx y0 y1
    go_upto_region 10 with fail
    have AK := (Below.refl wr3.heap.size wr3).drew
    have HNd0 := hide (HN.out.go AK)
    have HQd0 := hide (HQ.out.keep (AK.block _ HQ.out.lt))
    have HBd0 := hide (HBq.out.trans (AK.mono HBq.out.size))
    obtain ⟨wd, Bn⟩ : ∃ wd, wr3.drew = wd := ⟨_, rfl⟩
    rw [Bn] at HNd0 HQd0 HBd0
    obtain ⟨l0, An, Ao, Bz, BV, Bg, Az⟩ := HNd0.out.h3.at (c := 0) (by omega) (show x < n from Bo)
    have Bg : wd.cell? ⟨us, x, none⟩ = some (.slice An l0.length Ao) := Bg
    have CJ : l0.length ≤ 4096 := Ce.out 0 _ _ (by omega) Bz
    have AW := ae wd (.cells #[.int .i64 k] 3)
    have Bl : W.heap.size ≤ wd.heap.size := HBd0.out.size
    obtain ⟨As, Am, w2, BK, Be, Ah, BC, Cf⟩ := run_append_lies (P := Tryz.prog) (wd.alloc (.cells #[.int .i64 k] 3)) 26 26 W.heap.size 3 iI _ 1 8 Tryz.underlying26 Bx Bj Bw Bv rfl (by decide) (.slice An l0.length Ao) l0.length (aq l0) (owns_keep Az fun g hg => AW.block g (ax Az hg)) ⟨wd.heap.size, 0, none⟩ 1 1 [.int .i64 k] rfl (World.news_of_block (cs := [.int .i64 k].toArray) (t := 3) (fr := (0, 0)) (heap_alloc_new wd (.cells #[.int .i64 k] 3))) (by simp [Value.oneCell']) (by decide) (by unfold maxLen; omega) (by omega) (by simp; omega) (wd.heap.size + 1) (by simp)
    have BJ := hide BK
    have Ap : ∀ k, k < wd.heap.size → Value.ownBlock (.slice An l0.length Ao) ≠ some k → w2.heap[k]? = wd.heap[k]? := fun k hk hn => (Ah.block k (by simp; omega) fun e => hn e.symm).trans (AW.block k hk)
    have AY := au Az (HNd0.out.h3.fx 0 (by omega)) (by decide)
    have AZ := au Az HQd0.out (by decide)
    have Bk := au Az HNd0.out.bx (by decide)
    obtain ⟨w3, AO⟩ : ∃ w3, w2.setCell ⟨us, x, none⟩ (.slice (some ⟨As, 0, none⟩) (l0.length + 1) Am) = w3 := ⟨_, rfl⟩
    have BZ := hide AO
    have HN0a : Hid (Nw W.heap.size q us ms rr op n T.rules.length Ba (opK T (kD d2) k) (up H 0 ((H 0).set x (l0 ++ [(k : Int)]))) (up vs 0 ((vs 0).set x (.slice (some ⟨As, 0, none⟩) (l0.length + 1) Am))) w3) := hide (by rw [← AO]; exact HNd0.out.add (c := 0) (by omega) Bz BV Be Ap (by rcases BC with h | h; exact .inl h; exact .inr (by omega)))
    have AH : Hid (Fx qr 114 [.int .i64 r.kind, .int .i64 hm, .slice (some ⟨gx, ox, none⟩) r.body.length bp] w3) := hide (by rw [← AO]; exact (HQd0.out.keep (Ap _ HQd0.out.lt AZ)).keep (other_set (an HQd0.out (HNd0.out.h3.fx 0 (by omega)) (by decide))))
    have Aq : Hid (Below W.heap.size W w3) := hide (by rw [← AO]; exact (HBd0.out.trans (show Below W.heap.size wd w2 from (AW.mono Bl).trans ⟨Ah.os, Ah.tape, Ah.output, Ah.size, fun k hk => Ah.block k (by simp; omega) fun e => by have := (Az.lt k e.symm).1; omega⟩)).setCell (p := ⟨us, x, none⟩) (HNd0.out.h3.lo 0 (by omega)) (.slice (some ⟨As, 0, none⟩) (l0.length + 1) Am))
    have Bc : ∀ {a : Addr} {v : Value}, wd.cell? a = some v → Value.ownBlock (.slice An l0.length Ao) ≠ some a.block → ∀ X, X = wd ∨ X = wd.alloc (.cells #[.int .i64 k] 3) ∨ X = w2 → X.cell? a = some v := fun ha hn X hX => by
     have At := World.block_lt_of_cell? wd _ ha
     rcases hX with rfl | rfl | rfl
     ·exact ha
     ·exact ar ha AW
     exact (World.cell?_of_block (Ap _ At hn)).trans ha
    have LH := hide (Bc (HNd0.out.bx.get (i := 0) (v := sl us n) rfl) Bk)
    have LQ := hide (Bc (HQd0.out.get (i := 1) rfl) AZ)
    have LR := hide (Bc Bg AY)
    have q1 : w2.cell? ⟨us, x, none⟩ = some (.slice An l0.length Ao) := LR.out w2 (.inr (.inr rfl))
    have q2 : w2.frozen? ⟨us, x, none⟩ = false := ((HNd0.out.h3.fx 0 (by omega)).keep (Ap _ (HNd0.out.h3.fx 0 (by omega)).lt AY)).frz x
    have Ak : Hid (fQ ([some (55, .pointer (some ⟨q, 0, none⟩)), some (56, sl us n), some (57, .int .i64 x), some (58, .pointer (some ⟨q, 0, none⟩)), some (59, sl us n), some (60, .int .i64 x), some (61, .pointer (some ⟨us, x, none⟩)), some (62, .slice An l0.length Ao), some (63, .int .i64 k), some (64, .slice (some ⟨wd.heap.size, 0, none⟩) 1 1), some (65, .slice (some ⟨As, 0, none⟩) (l0.length + 1) Am), some (66, .pointer (some ⟨us, x, none⟩)), none].map fun p : Option (Nat × Value) => p.map Prod.fst) [(7, aa q), (11, .int .i64 x), (8, .int .i64 k)] = true) := hide rfl
    clear HN HQ HBq Bg Ah Be BK AZ Bk AY BV BC Cf Bc Ap AW Az HNd0 HQd0 HBd0 Bl AK AO
    refine bW fY (Jt [some (55, .pointer (some ⟨q, 0, none⟩)), some (56, sl us n), some (57, .int .i64 x), some (58, .pointer (some ⟨q, 0, none⟩)), some (59, sl us n), some (60, .int .i64 x), some (61, .pointer (some ⟨us, x, none⟩)), some (62, .slice An l0.length Ao), some (63, .int .i64 k), some (64, .slice (some ⟨wd.heap.size, 0, none⟩) 1 1), some (65, .slice (some ⟨As, 0, none⟩) (l0.length + 1) Am), some (66, .pointer (some ⟨us, x, none⟩)), none] [(7, aa q), (11, .int .i64 x), (8, .int .i64 k)] (fG 9 10 12 wd (wd.alloc (.cells #[.int .i64 k] 3)) w2 w3)) (by kernel_rfl) (by kernel_rfl) ?_ (ci ⟨?_, ?_, ?_, ?_, ?_, ?_, ?_, ?_, ?_, ?_, ?_, ?_, ?_, trivial⟩) ?_ ?_
    ·exact ⟨fun p hp => by simp at hp; rcases hp with rfl | rfl | rfl <;> rfl, fun i d v _ hL => (by cases hL), Bn⟩
    ·intro ρ X L hc hf hL hd Ab hJ
     have k7 : ρ (.tmp 7) = aa q := hJ.base (7, aa q) (by simp)
     refine ac (v := .pointer (some ⟨q, 0, none⟩)) (w' := X) ?_ (hJ.put Ak.out rfl (by rw [ap (by decide) (by decide) (by decide)]; exact hJ.wd))
     clear hd Ab hJ hL
     go_simp
    ·intro ρ X L hc hf hL hd Ab hJ
     have CO := hJ.vals 0 55 (.pointer (some ⟨q, 0, none⟩)) rfl (hd ⟨0, .data⟩ (by simp) rfl)
     have Ai : L 12 = false := ak (by kernel_rfl) Ab (k := 1) (by simp) hL
     have hx := LH.out X (aZ hJ.wd Ai)
     clear Ai
     refine ac (v := sl us n) (w' := X) ?_ (hJ.put Ak.out rfl (by rw [ap (by decide) (by decide) (by decide)]; exact hJ.wd))
     clear hd Ab hJ hL
     go_simp
    ·intro ρ X L hc hf hL hd Ab hJ
     have Cq : ρ (.tmp 11) = .int .i64 x := hJ.base (11, .int .i64 x) (by simp)
     refine ac (v := .int .i64 x) (w' := X) ?_ (hJ.put Ak.out rfl (by rw [ap (by decide) (by decide) (by decide)]; exact hJ.wd))
     clear hd Ab hJ hL
     go_simp
    ·intro ρ X L hc hf hL hd Ab hJ
     have k7 : ρ (.tmp 7) = aa q := hJ.base (7, aa q) (by simp)
     refine ac (v := .pointer (some ⟨q, 0, none⟩)) (w' := X) ?_ (hJ.put Ak.out rfl (by rw [ap (by decide) (by decide) (by decide)]; exact hJ.wd))
     clear hd Ab hJ hL
     go_simp
    ·intro ρ X L hc hf hL hd Ab hJ
     have Da := hJ.vals 3 58 (.pointer (some ⟨q, 0, none⟩)) rfl (hd ⟨3, .data⟩ (by simp) rfl)
     have Ai : L 12 = false := ak (by kernel_rfl) Ab (k := 4) (by simp) hL
     have hx := LH.out X (aZ hJ.wd Ai)
     clear Ai
     refine ac (v := sl us n) (w' := X) ?_ (hJ.put Ak.out rfl (by rw [ap (by decide) (by decide) (by decide)]; exact hJ.wd))
     clear hd Ab hJ hL
     go_simp
    ·intro ρ X L hc hf hL hd Ab hJ
     have Cq : ρ (.tmp 11) = .int .i64 x := hJ.base (11, .int .i64 x) (by simp)
     refine ac (v := .int .i64 x) (w' := X) ?_ (hJ.put Ak.out rfl (by rw [ap (by decide) (by decide) (by decide)]; exact hJ.wd))
     clear hd Ab hJ hL
     go_simp
    ·intro ρ X L hc hf hL hd Ab hJ
     have CM := hJ.vals 4 59 (sl us n) rfl (hd ⟨4, .data⟩ (by simp) rfl)
     have Do := hJ.vals 5 60 (.int .i64 x) rfl (hd ⟨5, .data⟩ (by simp) rfl)
     refine ac (v := .pointer (some ⟨us, x, none⟩)) (w' := X) ?_ (hJ.put Ak.out rfl (by rw [ap (by decide) (by decide) (by decide)]; exact hJ.wd))
     clear hd Ab hJ hL
     go_simp
    ·intro ρ X L hc hf hL hd Ab hJ
     have Dq := hJ.vals 6 61 (.pointer (some ⟨us, x, none⟩)) rfl (hd ⟨6, .data⟩ (by simp) rfl)
     have Ai : L 12 = false := ak (by kernel_rfl) Ab (k := 7) (by simp) hL
     have hx := LR.out X (aZ hJ.wd Ai)
     clear Ai
     refine ac (v := .slice An l0.length Ao) (w' := X) ?_ (hJ.put Ak.out rfl (by rw [ap (by decide) (by decide) (by decide)]; exact hJ.wd))
     clear hd Ab hJ hL
     go_simp
    ·intro ρ X L hc hf hL hd Ab hJ
     have k8 : ρ (.tmp 8) = .int .i64 k := hJ.base (8, .int .i64 k) (by simp)
     refine ac (v := .int .i64 k) (w' := X) ?_ (hJ.put Ak.out rfl (by rw [ap (by decide) (by decide) (by decide)]; exact hJ.wd))
     clear hd Ab hJ hL
     go_simp
    ·intro ρ X L hc hf hL hd Ab hJ
     have CT := hJ.vals 8 63 (.int .i64 k) rfl (hd ⟨8, .data⟩ (by simp) rfl)
     have AF : L 10 = false := by cases e : L 10 with | false => rfl | true => (have := Ab 10 _ rfl e ⟨9, .data⟩ (by simp) rfl; rw [show (⟨9, .data⟩ : Edge).on = 9 from rfl] at this; rw [hL] at this; cases this)
     have Ai : L 12 = false := ak (by kernel_rfl) Ab (k := 9) (by simp) hL
     have hX := hJ.wd.trans (jV hL AF Ai)
     refine ac (v := .slice (some ⟨wd.heap.size, 0, none⟩) 1 1) (w' := wd.alloc (.cells #[.int .i64 k] 3)) ?_ (hJ.put Ak.out rfl ((eD aF (by rw [al (by decide)]; exact AF) (by rw [al (by decide)]; exact Ai)).symm))
     subst hX
     clear hd Ab hJ hL AF Ai
     go_simp
    ·intro ρ X L hc hf hL hd Ab hJ
     have Cn := hJ.vals 7 62 (.slice An l0.length Ao) rfl (hd ⟨7, .data⟩ (by simp) rfl)
     have CF := hJ.vals 9 64 (.slice (some ⟨wd.heap.size, 0, none⟩) 1 1) rfl (hd ⟨9, .data⟩ (by simp) rfl)
     have Cu : L 9 = true := hd ⟨9, .data⟩ (by simp) rfl
     have Ai : L 12 = false := ak (by kernel_rfl) Ab (k := 10) (by simp) hL
     have hX := hJ.wd.trans (eD Cu hL Ai)
     refine eM _ _ 26 rfl Cn CF (u := .slice (some ⟨As, 0, none⟩) (l0.length + 1) Am) (w' := w2) (by rw [hX]; exact BJ.out) (hJ.put Ak.out rfl ((eF aF (by rw [al (by decide)]; exact Ai)).symm))
    ·intro ρ X L hc hf hL hd Ab hJ
     have Dj := hJ.vals 1 56 (sl us n) rfl (hd ⟨1, .data⟩ (by simp) rfl)
     have Dg := hJ.vals 2 57 (.int .i64 x) rfl (hd ⟨2, .data⟩ (by simp) rfl)
     refine ac (v := .pointer (some ⟨us, x, none⟩)) (w' := X) ?_ (hJ.put Ak.out rfl (by rw [ap (by decide) (by decide) (by decide)]; exact hJ.wd))
     clear hd Ab hJ hL
     go_simp
    ·intro ρ X L hc hf hL hd Ab hJ
     have CZ := hJ.vals 11 66 (.pointer (some ⟨us, x, none⟩)) rfl (hd ⟨11, .data⟩ (by simp) rfl)
     have CP := hJ.vals 10 65 (.slice (some ⟨As, 0, none⟩) (l0.length + 1) Am) rfl (hd ⟨10, .data⟩ (by simp) rfl)
     have AF : L 10 = true := hd ⟨10, .data⟩ (by simp) rfl
     have hX := hJ.wd.trans (eF AF hL)
     refine bY (w' := w3) ?_ (hJ.last rfl ((eC aF).symm))
     subst hX
     clear hd Ab hJ hL AF
     rw [← BZ.out]
     go_simp
    ·intro c a' w' _ hE
     exact hE.elim
    rintro ⟨Ad, df⟩ w' AC AV ⟨L, hL, hJ⟩ Ay
    simp only at AV AC
    subst AV
    have Cr : w3 = w' := (hJ.wd.trans (eC (hL 12 (by decide)))).symm
    subst Cr
    have Ax := dA 55 66 (by kernel_rfl) AC Ay
    simp only [zr, Nat.reduceLT, Nat.reduceAdd, true_or, or_true, or_self, if_true, if_false] at Ax
    rw [Ax]
    clear Ax hJ hL Ay AC Ak BJ BZ LH LQ LR q1 q2 Bn
    generalize Ad.getD 55 undef = x55
    generalize Ad.getD 56 undef = x56
    generalize Ad.getD 57 undef = x57
    generalize Ad.getD 58 undef = x58
    generalize Ad.getD 59 undef = x59
    generalize Ad.getD 60 undef = x60
    generalize Ad.getD 61 undef = x61
    generalize Ad.getD 62 undef = x62
    generalize Ad.getD 63 undef = x63
    generalize Ad.getD 64 undef = x64
    generalize Ad.getD 65 undef = x65
    generalize Ad.getD 66 undef = x66
    have Bb := hide (HG.out.add HRr.out Ch.out HXx.out Bo Bz)
    go_wp2_with fail
    go_roundw
    case rel => exact ⟨j + 1, _, _, by omega, by go_num, Bb, HN0a, Aq, AH⟩
    case measure => simp [intOf]; omega
   have Bb := hide (HG.out.next HRr.out AE.out (by omega))
   have q0 := HQ.out.get (i := 0) rfl
   have q1 := HQ.out.get (i := 1) rfl
   have q2 := HQ.out.get (i := 2) rfl
   have CL := hide (H2.out wr3 r.kind (hm : Int) (.slice bd r.body.length bp))
   cases htk : d2 r.kind with
   | false =>
    have Ar : Hid ((kD d2) r = false) := hide htk
    rw [htk] at CL
    clear htk
    have Al : Hid (opK T (kD d2) (k + 1) = opK T (kD d2) k) := hide (by rw [jX, AB.out, if_neg (by rw [Ar.out]; decide)])
    go_wp2_with (refine CL.out.mono ?_; rintro _ w5 ⟨rfl, hb⟩; have Ag := hide hb; clear hb)
    go_roundw
    case rel => exact ⟨k + 1, _, _, by have := HL.out; omega, by go_num, Bb, hide (by rw [AL.out, Al.out]; exact HN.out.go Ag.out), hide (HBq.out.trans (Ag.out.mono HBq.out.size))⟩
    case measure => have := HL.out; simp [intOf]; omega
   | true =>
    have Ar : Hid ((kD d2) r = true) := hide htk
    rw [htk] at CL
    clear htk
    have Al : Hid (opK T (kD d2) (k + 1) = aA (opK T (kD d2) k) hm (aE (opK T (kD d2) k hm))) := hide (by rw [jX, AB.out, if_pos Ar.out, BA.out])
    go_upto_region 13 with (refine CL.out.mono ?_; rintro _ w5 ⟨rfl, hb⟩; have Ag := hide hb; clear hb)
    have AG := hide (HN.out.go Ag.out)
    have BO := hide (HQ.out.keep (Ag.out.block _ HQ.out.lt))
    have BY := hide (HBq.out.trans (Ag.out.mono HBq.out.size))
    clear HN HQ HBq Ag q0 q1 q2 CL
    have s3 := AG.out.bx.get (i := 3) rfl
    have q1 := BO.out.get (i := 1) rfl
    have co := AG.out.fo.get (aY AM)
    have zo := AG.out.fo.frz hm
    obtain ⟨v1, BN⟩ : ∃ v1, IntKind.i64.wrap (opK T (kD d2) k hm + 1) = v1 := ⟨_, rfl⟩
    have HV : Hid (aE (opK T (kD d2) k hm) = v1) := hide BN
    have CA := hide (AG.out.setO AM v1)
    have Cv := hide (BY.out.setCell (p := ⟨op, hm, none⟩) AG.out.lo.2.2.2 (.int .i64 v1))
    generalize opK T (kD d2) k hm = xo at co BN
    clear AG BO BY
    go_wp2_with fail
    go_roundw
    case rel => exact ⟨k + 1, _, _, by have := HL.out; omega, by go_num, Bb, hide (by rw [AL.out, Al.out, HV.out]; exact CA.out), Cv⟩
    case measure => have := HL.out; simp [intOf]; omega
 have AQ : k = T.rules.length := by omega
 have Aj : Hid (Nw W.heap.size q us ms rr op n T.rules.length (fi T (kD d1) T.rules.length) (eh T (kD d2) (opK T (kD d2) T.rules.length) 0) H vs wr) := hide (by have := HN.out; rw [AQ] at this; exact this)
 have Cx : Hid (Gu T (kD d1) n T.rules.length 0 H) := hide (by have := HG.out; rw [AQ] at this; exact this)
 have Au := hide HBr.out
 clear HN HG HBr AQ
 have c2 := (AA.out.keep (Au.out.block _ AA.out.lt)).get (i := 2) rfl
 go_wp2_with fail
 clear c2
 go_loopw [83] (fun x wr => ∃ k : Nat, k ≤ T.rules.length ∧ x = .int .i64 k ∧ Hid (Nw W.heap.size q us ms rr op n T.rules.length (fi T (kD d1) T.rules.length) (eh T (kD d2) (opK T (kD d2) T.rules.length) k) H vs wr) ∧ Hid (Below W.heap.size W wr)) (fun x _ => T.rules.length - (intOf x).toNat)
 case atStart => exact ⟨0, by omega, rfl, Aj, Au⟩
 clear Aj Au
 rename World => wr5
 obtain ⟨k, hk, rfl, HN, HBr⟩ := hrel
 by_cases At : k < T.rules.length
 ·obtain ⟨r, hr⟩ := am At
  obtain ⟨h0, h1⟩ := HP.out.head r (List.mem_of_getElem? hr)
  obtain ⟨hm, Aw⟩ := Int.eq_ofNat_of_zero_le h0
  have AM : hm < n := by omega
  have AP : aj T k = (hm : Int) := by unfold aj; rw [Int.toNat_natCast, hr]; exact Aw
  have AS : aR T (kD d2) k = (kD d2) r := by unfold aR; rw [Int.toNat_natCast, hr]; rfl
  have AT : az T k = r.body := by unfold az; rw [Int.toNat_natCast, hr]; rfl
  have hR := TR.keep HBr.out.block Bq.out
  obtain ⟨gr, go, bd, bp, rfl, Bi, x0, x1, x2, -, BQ, AI⟩ := dG hR.rules hr
  rw [Aw] at x1
  have AD := ae wr5 (.cells #[.int .i64 r.kind, .int .i64 hm, .slice bd r.body.length bp] 114)
  have HQ : Hid (Fx wr5.heap.size 114 [.int .i64 r.kind, .int .i64 hm, .slice bd r.body.length bp] (wr5.alloc (.cells #[.int .i64 r.kind, .int .i64 hm, .slice bd r.body.length bp] 114))) := hide (heap_alloc_new wr5 _)
  have HNq := hide (HN.out.go AD)
  have HBq := hide (HBr.out.trans (AD.mono HBr.out.size))
  have BA := hide AP
  have AB := hide AS
  have Bd := hide AT
  have HL := hide At
  clear hr h0 h1 Aw hR AD AI HN HBr Bi AP AS AT
  go_upto_region 18 with fail
  clear x0 x1 x2
  generalize wr5.alloc (.cells #[.int .i64 r.kind, .int .i64 hm, .slice bd r.body.length bp] 114) = wq at *
  obtain ⟨qr, AN⟩ : ∃ qr, wr5.heap.size = qr := ⟨_, rfl⟩
  rw [AN] at HQ ⊢
  clear AN
  have q0 := HQ.out.get (i := 0) rfl
  have q1 := HQ.out.get (i := 1) rfl
  have q2 := HQ.out.get (i := 2) rfl
  have CL := hide (H2.out wq r.kind (hm : Int) (.slice bd r.body.length bp))
  cases htk : d2 r.kind with
  | false =>
   have Ar : Hid ((kD d2) r = false) := hide htk
   have Al : Hid (eh T (kD d2) (opK T (kD d2) T.rules.length) (k + 1) = eh T (kD d2) (opK T (kD d2) T.rules.length) k) := hide (by rw [j6, AB.out, Ar.out]; rfl)
   rw [htk] at CL
   clear htk
   go_wp2_with (refine CL.out.mono ?_; rintro _ w5 ⟨rfl, hb⟩; have Ag := hide hb; clear hb)
   go_roundw
   case rel => exact ⟨k + 1, by have := HL.out; omega, by go_num, hide (by rw [Al.out]; exact HNq.out.go Ag.out), hide (HBq.out.trans (Ag.out.mono HBq.out.size))⟩
   case measure => have := HL.out; simp [intOf]; omega
  | true =>
   have Ar : Hid ((kD d2) r = true) := hide htk
   rw [htk] at CL
   clear htk
   by_cases he : r.body.length = 0
   ·have AX : r.body.isEmpty = true := by rw [List.isEmpty_iff]; exact List.eq_nil_of_length_eq_zero he
    have Al : Hid (eh T (kD d2) (opK T (kD d2) T.rules.length) (k + 1) = aA (eh T (kD d2) (opK T (kD d2) T.rules.length) k) hm 0) := hide (by rw [j6, AB.out, Ar.out, Bd.out, AX, BA.out]; rfl)
    have Ca : ((r.body.length : Int) == 0) = true := by simpa using he
    have Bf : Hid (∀ X, Below wq.heap.size wq X → X.cell? ⟨qr, 1, none⟩ = some (.int .i64 hm) ∧ X.cell? ⟨qr, 2, none⟩ = some (.slice bd r.body.length bp) ∧ X.cell? ⟨q, 3, none⟩ = some (sl op n) ∧ X.cell? ⟨op, hm, none⟩ = some (.int .i64 (eh T (kD d2) (opK T (kD d2) T.rules.length) k hm)) ∧ X.frozen? ⟨op, hm, none⟩ = false) := hide fun X hX => by
     have a := HQ.out.keep (hX.block _ HQ.out.lt)
     have b := HNq.out.go hX
     exact ⟨a.get (i := 1) rfl, a.get (i := 2) rfl, b.bx.get (i := 3) rfl, b.fo.get (aY AM), b.fo.frz hm⟩
    clear AX
    rw [he] at *
    go_wp2_with (refine CL.out.mono ?_; rintro _ w5 ⟨rfl, hb⟩; have Ag := hide hb; obtain ⟨k1, k2, k3, k4, k5⟩ := Bf.out w5 hb; clear hb)
    go_roundw
    case rel => exact ⟨k + 1, by have := HL.out; omega, by go_num, hide (by rw [Al.out]; exact (HNq.out.go Ag.out).setO AM 0), hide ((HBq.out.trans (Ag.out.mono HBq.out.size)).setCell (p := ⟨op, hm, none⟩) HNq.out.lo.2.2.2 (.int .i64 0))⟩
    case measure => have := HL.out; simp [intOf]; omega
   have AX : r.body.isEmpty = false := by cases hb : r.body with
    | nil => rw [hb] at he; simp at he
    | cons _ _ => rfl
   have Al : Hid (eh T (kD d2) (opK T (kD d2) T.rules.length) (k + 1) = eh T (kD d2) (opK T (kD d2) T.rules.length) k) := hide (by rw [j6, AB.out, Ar.out, Bd.out, AX]; rfl)
   have Ca : ((r.body.length : Int) == 0) = false := by simpa using he
   have CE : (r.body.length == 0) = false := by simpa using he
   have Bf : Hid (∀ X, Below wq.heap.size wq X → X.cell? ⟨qr, 2, none⟩ = some (.slice bd r.body.length bp)) := hide fun X hX => (HQ.out.keep (hX.block _ HQ.out.lt)).get (i := 2) rfl
   obtain ⟨bl, Cg⟩ : ∃ bl, r.body.length = bl := ⟨_, rfl⟩
   rw [Cg] at Bf he Ca CE CL q2 BQ
   clear AX
   go_wp2_with (refine CL.out.mono ?_; rintro _ w5 ⟨rfl, hb⟩; have Ag := hide hb; have k2 := Bf.out w5 hb; clear hb)
   go_roundw
   case rel => exact ⟨k + 1, by have := HL.out; omega, by go_num, hide (by rw [Al.out]; exact HNq.out.go Ag.out), hide (HBq.out.trans (Ag.out.mono HBq.out.size))⟩
   case measure => have := HL.out; simp [intOf]; omega
 have AQ : k = T.rules.length := by omega
 have Aj : Hid (Nw W.heap.size q us ms rr op n T.rules.length (fi T (kD d1) T.rules.length) (eh T (kD d2) (opK T (kD d2) T.rules.length) T.rules.length) H vs wr5) := hide (by have := HN.out; rw [AQ] at this; exact this)
 clear HN
 have c0 := Aj.out.bx.get (i := 0) rfl
 have c1 := Aj.out.bx.get (i := 1) rfl
 have c2 := Aj.out.bx.get (i := 2) rfl
 have c3 := Aj.out.bx.get (i := 3) rfl
 have HX2r := hide (AU.out.keep (HBr.out.block _ AU.out.lt))
 have Di : bq + 1 < W.heap.size := AU.out.lt
 go_upto_region 21 with fail
 refine wp_region_lit ?_
 refine wpList_plain rfl fun K hK => ?_
 go_simp
 refine hK _ _ ?_
 clear hK
 refine wpList_plain rfl fun K hK => ?_
 refine wp_store_row 178 _ _ rfl (bq + 1) _ rfl rfl _ _ HX2r.out (by kernel_rfl) rfl (by simp [sl, Value.oneCell']) ?_
 refine hK _ _ ?_
 clear hK
 have AJ := hide (setRow_heap wr5 (bq + 1) _ #[sl us n, sl ms T.rules.length, sl rr T.rules.length, sl op n] _ _ HX2r.out)
 have Ct := hide (Aj.out.far (w' := wr5.setRow (bq + 1) #[sl us n, sl ms T.rules.length, sl rr T.rules.length, sl op n]) (fun g hg _ => setRow_other _ _ _ _ (by omega)) HB.out.size)
 have Cw := hide (kM (b := bq + 1) (HB.out.trans (HBr.out.mono HB.out.size)) (by rw [Ck.out]; omega) #[sl us n, sl ms T.rules.length, sl rr T.rules.length, sl op n])
 generalize wr5.setRow (bq + 1) #[sl us n, sl ms T.rules.length, sl rr T.rules.length, sl op n] = Y at *
 clear Aj HBr c0 c1 c2 c3 HX2r AU
 go_wp2_with fail
 refine bodyPost_ret (v := .agg #[sl us n, sl ms T.rules.length, sl rr T.rules.length, sl op n]) (yT rfl AJ.out) rfl ?_
 exact ⟨q, us, ms, rr, op, vs, H, rfl, Ct.out, fun z hz => by have := Cx.out.u z hz; simpa using this, Cw.out⟩
theorem nS {w : World} {T : Th} {F : List Int} {n : Nat} {fa ra ba : Option Addr} {fc rc bc : Nat} (h : TA w.heap.size w T fa fc ra rc ba bc) (hp : Pf T F n) :
    Calls Tryz.prog 173 #[tv T fa fc ra rc ba bc, .func (.func 174) #[] #[], .func (.func 174) #[] #[]] w fun o w' => ∃ q us ms rr op vs H, o = .returned (.agg (rR us ms rr op n T.rules.length).toArray) ∧ Nw w.heap.size q us ms rr op n T.rules.length (fi T kS T.rules.length) (eh T kS (opK T kS T.rules.length) T.rules.length) H vs w' ∧ (∀ z : Nat, z < n → (H 0).getD z [] = dN T kS T.rules.length z) ∧ Below w.heap.size w w' :=
 ly (d1 := fun k => decide (k = 1)) (d2 := fun k => decide (k = 1)) (fun _ _ _ _ => fL) (fun _ _ _ _ => fL) (fun _ e => e) (enters_go Tryz.func174 (by kernel_rfl) (by kernel_rfl)) (enters_go Tryz.func174 (by kernel_rfl) (by kernel_rfl)) h hp
theorem qe {w : World} {T : Th} {F : List Int} {n : Nat} {fa ra ba : Option Addr} {fc rc bc : Nat} (h : TA w.heap.size w T fa fc ra rc ba bc) (hp : Pf T F n) :
    Calls Tryz.prog 173 #[tv T fa fc ra rc ba bc, .func (.func 175) #[] #[], .func (.func 176) #[] #[]] w fun o w' => ∃ q us ms rr op vs H, o = .returned (.agg (rR us ms rr op n T.rules.length).toArray) ∧ Nw w.heap.size q us ms rr op n T.rules.length (fi T kA T.rules.length) (eh T kT (opK T kT T.rules.length) T.rules.length) H vs w' ∧ (∀ z : Nat, z < n → (H 0).getD z [] = dN T kA T.rules.length z) ∧ Below w.heap.size w w' :=
 ly (d1 := fun _ => true) (d2 := fun k => !decide (k = 3)) (fun _ _ _ _ => tO) (fun _ _ _ _ => fh) (fun _ e => by cases e) (enters_go Tryz.func175 (by kernel_rfl) (by kernel_rfl)) (enters_go Tryz.func176 (by kernel_rfl) (by kernel_rfl)) h hp
end Go.Proofs.YtmlhcncagdfjfaaGreat.Fa
