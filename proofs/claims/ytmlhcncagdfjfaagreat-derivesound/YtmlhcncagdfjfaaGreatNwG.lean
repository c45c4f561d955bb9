import Derived.Test.YtmlhcncagdfjfaaGreatNob
set_option maxRecDepth 100000
set_option maxHeartbeats 12800000
namespace Go.Proofs.YtmlhcncagdfjfaaGreat.Fa
open Go.RowKit Rg
def kD (d : Int → Bool) (r : RuleM) : Bool := d r.kind
theorem mN {f1 f2 : FuncId} {d1 d2 : Int → Bool} (C1 : ∀ (w : World) (k h : Int) (v : Value), Calls Tryz.prog f1 #[.agg #[.int .i64 k, .int .i64 h, v]] w fun o w' => o = .returned (.bool (d1 k)) ∧ Below w.heap.size w w') (C2 : ∀ (w : World) (k h : Int) (v : Value), Calls Tryz.prog f2 #[.agg #[.int .i64 k, .int .i64 h, v]] w fun o w' => o = .returned (.bool (d2 k)) ∧ Below w.heap.size w w') (himp : ∀ k, d1 k = false → d2 k = false) (E1 : ∀ args w', (callFunc f1 args).run Tryz.prog w' = .ok (.enter f1 args) w') (E2 : ∀ args w', (callFunc f2 args).run Tryz.prog w' = .ok (.enter f2 args) w') {w : World} {T : Th} {F : List Int} {n : Nat} {fa ra ba : Option Addr} {fc rc bc : Nat} (h : TA w.heap.size w T fa fc ra rc ba bc) (hp : Pf T F n) :
    Calls Tryz.prog 173 #[tv T fa fc ra rc ba bc, .func (.func f1) #[] #[], .func (.func f2) #[] #[]] w fun o w' => ∃ q us ms rr op vs H, o = .returned (.agg (tP us ms rr op n T.rules.length).toArray) ∧ Nw w.heap.size q us ms rr op n T.rules.length (fV T (kD d1) T.rules.length) (eP T (kD d2) (opK T (kD d2) T.rules.length) T.rules.length) H vs w' ∧ (∀ z : Nat, z < n → (H 0).getD z [] = dR T (kD d1) T.rules.length z) ∧ Below w.heap.size w w' := by
 obtain ⟨iL, Cv, CD, Ci, Cq⟩ := info_parts o9
 obtain ⟨iB, Cy, Cn, CB, Cw⟩ := info_parts kO
 obtain ⟨iI, Bv, Bi, Bk, Bj⟩ := info_parts iE
 have Dq := hp.n4
 have De : T.rules.length ≤ 4096 := hp.ok.rl
 have Cd : ∀ W, (Instr.makeSlice 22 (.int .i64 T.lits) (.int .i64 T.lits)).run Tryz.prog W = .ok (sl W.heap.size n) (W.alloc (.cells (Array.replicate n (.slice none 0 0)) 26)) := fun W => by rw [hp.ln]; exact aQ (P := Tryz.prog) Tryz.underlying22 Cv CD Ci rfl n (by rw [Cq]; omega) (by unfold maxLen; omega) W
 have BF : ∀ W, (Instr.makeSlice 26 (.int .i64 T.lits) (.int .i64 T.lits)).run Tryz.prog W = .ok (sl W.heap.size n) (W.alloc (.cells (Array.replicate n (.int .i64 0)) 3)) := fun W => by rw [hp.ln]; exact aQ (P := Tryz.prog) Tryz.underlying26 Bv Bi Bk rfl n (by rw [Bj]; omega) (by unfold maxLen; omega) W
 have BX : ∀ W, (Instr.makeSlice 26 (.int .i64 T.rules.length) (.int .i64 T.rules.length)).run Tryz.prog W = .ok (sl W.heap.size T.rules.length) (W.alloc (.cells (Array.replicate T.rules.length (.int .i64 0)) 3)) := fun W => aQ (P := Tryz.prog) Tryz.underlying26 Bv Bi Bk rfl T.rules.length (by rw [Bj]; omega) (by unfold maxLen; omega) W
 have BQ : ∀ W, (Instr.makeSlice 106 (.int .i64 T.rules.length) (.int .i64 T.rules.length)).run Tryz.prog W = .ok (sl W.heap.size T.rules.length) (W.alloc (.cells (Array.replicate T.rules.length (.bool false)) 4)) := fun W => aQ (P := Tryz.prog) Tryz.underlying106 Cy Cn CB rfl T.rules.length (by rw [Cw]; omega) (by unfold maxLen; omega) W
 have Bt := ae w (.cells #[.int .i64 T.lits, .slice fa T.foes.length fc, .slice ra T.rules.length rc, .slice ba T.beats.length bc] 25)
 have Bs := ae (w.alloc (.cells #[.int .i64 T.lits, .slice fa T.foes.length fc, .slice ra T.rules.length rc, .slice ba T.beats.length bc] 25)) (.cells #[.slice none 0 0, .slice none 0 0, .slice none 0 0, .slice none 0 0] 178)
 have hB := Bt.trans (Bs.mono Bt.size)
 have BS : Fx w.heap.size 25 [.int .i64 T.lits, .slice fa T.foes.length fc, .slice ra T.rules.length rc, .slice ba T.beats.length bc] ((w.alloc (.cells #[.int .i64 T.lits, .slice fa T.foes.length fc, .slice ra T.rules.length rc, .slice ba T.beats.length bc] 25)).alloc (.cells #[.slice none 0 0, .slice none 0 0, .slice none 0 0, .slice none 0 0] 178)) := (Bs.block _ (by simp)).trans (heap_alloc_new w _)
 have BU : Fx (w.heap.size + 1) 178 [.slice none 0 0, .slice none 0 0, .slice none 0 0, .slice none 0 0] ((w.alloc (.cells #[.int .i64 T.lits, .slice fa T.foes.length fc, .slice ra T.rules.length rc, .slice ba T.beats.length bc] 25)).alloc (.cells #[.slice none 0 0, .slice none 0 0, .slice none 0 0, .slice none 0 0] 178)) := by
  have := heap_alloc_new (w.alloc (.cells #[.int .i64 T.lits, .slice fa T.foes.length fc, .slice ra T.rules.length rc, .slice ba T.beats.length bc] 25)) (.cells #[.slice none 0 0, .slice none 0 0, .slice none 0 0, .slice none 0 0] 178)
  simpa [Fx] using this
 have Bl := hide (TR.go hB h)
 have HP := hide hp
 have H1 := hide C1
 have H2 := hide C2
 have HI := hide himp
 clear C1 C2 himp
 have HB := hide hB
 have AA := hide BS
 have AU := hide BU
 clear h hp hB Bt Bs
 go_enter Tryz.func173, Tryz.ntmps173
 go_upto_region 1 with fail
 clear BS BU
 generalize (w.alloc (.cells #[.int .i64 T.lits, .slice fa T.foes.length fc, .slice ra T.rules.length rc, .slice ba T.beats.length bc] 25)).alloc (.cells #[.slice none 0 0, .slice none 0 0, .slice none 0 0, .slice none 0 0] 178) = W at *
 obtain ⟨bq, Bz⟩ : ∃ bq, w.heap.size = bq := ⟨_, rfl⟩
 have Co := hide Bz
 rw [Bz] at AA AU ⊢
 clear Bz
 have HDr := hide ((Below.refl W.heap.size W).drew)
 obtain ⟨W0, Bx⟩ : ∃ W0, W.drew = W0 := ⟨_, rfl⟩
 have HX1d := hide (AA.out.keep (HDr.out.block _ AA.out.lt))
 have Ae : Hid (gV [some 14, some 15, some 16, some 17, some 18, some 19, some 20, some 21, some 22, some 23, some 24, some 25, some 26, some 27, some 28, some 7, none] [(3, aa bq)] = true) := hide rfl
 rw [Bx] at HX1d HDr
 have Af : Hid (∀ X, Below W0.heap.size W0 X → X.cell? ⟨bq, 0, none⟩ = some (.int .i64 T.lits) ∧ X.cell? ⟨bq, 2, none⟩ = some (.slice ra T.rules.length rc)) := hide fun X hX => by
  have hf := HX1d.out.keep (hX.block _ HX1d.out.lt)
  exact ⟨hf.get (i := 0) rfl, hf.get (i := 2) rfl⟩
 refine cH gF (Jl 16 [some 14, some 15, some 16, some 17, some 18, some 19, some 20, some 21, some 22, some 23, some 24, some 25, some 26, some 27, some 28, some 7, none] [(3, aa bq)] (yM T.rules.length ra rc T bq n W0.heap.size) (Fi T.rules.length n W0) W0) (by kernel_rfl) (by kernel_rfl) ?_ (cV ⟨?_, ?_, ?_, ?_, ?_, ?_, ?_, ?_, ?_, ?_, ?_, ?_, ?_, ?_, ?_, ?_, ?_, trivial⟩) ?_ ?_
 · refine ⟨fun _ => ?_, fun e => by cases e⟩
   show Jg _ _ _ W0 _ _ W.drew
   rw [Bx]
   exact Jg.start.2 fun p hp => by simp at hp; subst hp; rfl
 · intro ρ X L hc hf hL hd Ab Ac
   have Aa : L 16 = false := al (by kernel_rfl) Ab (k := 0) (by simp) hL
   have hJ := Ac.1 Aa
   obtain ⟨c0, c2⟩ := Af.out X hJ.low
   have k3 : ρ (.tmp 3) = aa bq := hJ.base (3, aa bq) (by simp)
   refine ac (v := aa bq) (w' := X) ?_ ⟨fun _ => hJ.put Ae.out dz (i := 0) (d := 14) rfl (Below.refl _ _) (rfl), fun e => by rw [am (by decide), Aa] at e; cases e⟩
   clear hd Ab hJ Ac hL Aa
   go_simp
 · intro ρ X L hc hf hL hd Ab Ac
   have Aa : L 16 = false := al (by kernel_rfl) Ab (k := 1) (by simp) hL
   have hJ := Ac.1 Aa
   obtain ⟨c0, c2⟩ := Af.out X hJ.low
   obtain ⟨_, _, _, e1⟩ := hJ.get (i := 0) (d := 14) rfl (hd ⟨0, .data⟩ (by simp) rfl)
   have Dk : ρ (.tmp 14) = aa bq := e1
   clear e1
   refine ac (v := .int .i64 T.lits) (w' := X) ?_ ⟨fun _ => hJ.put Ae.out dz (i := 1) (d := 15) rfl (Below.refl _ _) (rfl), fun e => by rw [am (by decide), Aa] at e; cases e⟩
   clear hd Ab hJ Ac hL Aa
   go_simp
 · intro ρ X L hc hf hL hd Ab Ac
   have Aa : L 16 = false := al (by kernel_rfl) Ab (k := 2) (by simp) hL
   have hJ := Ac.1 Aa
   obtain ⟨c0, c2⟩ := Af.out X hJ.low
   obtain ⟨_, _, _, e1⟩ := hJ.get (i := 1) (d := 15) rfl (hd ⟨1, .data⟩ (by simp) rfl)
   have Dg : ρ (.tmp 15) = .int .i64 T.lits := e1
   have Bu := Cd X
   clear e1
   refine ac (v := sl X.heap.size n) (w' := X.alloc (.cells (Array.replicate n (.slice none 0 0)) 26)) ?_ ⟨fun _ => hJ.put Ae.out dz (i := 2) (d := 16) rfl (ae X _) (⟨X.heap.size, rfl, by unfold Fx; rw [heap_alloc_new]; simp, Nat.le_refl _, by simp, hJ.low.size⟩), fun e => by rw [am (by decide), Aa] at e; cases e⟩
   clear hd Ab hJ Ac hL Aa
   go_simp
 · intro ρ X L hc hf hL hd Ab Ac
   have Aa : L 16 = false := al (by kernel_rfl) Ab (k := 3) (by simp) hL
   have hJ := Ac.1 Aa
   obtain ⟨c0, c2⟩ := Af.out X hJ.low
   have k3 : ρ (.tmp 3) = aa bq := hJ.base (3, aa bq) (by simp)
   refine ac (v := .pointer (some ⟨bq, 2, none⟩)) (w' := X) ?_ ⟨fun _ => hJ.put Ae.out dz (i := 3) (d := 17) rfl (Below.refl _ _) (rfl), fun e => by rw [am (by decide), Aa] at e; cases e⟩
   clear hd Ab hJ Ac hL Aa
   go_simp
 · intro ρ X L hc hf hL hd Ab Ac
   have Aa : L 16 = false := al (by kernel_rfl) Ab (k := 4) (by simp) hL
   have hJ := Ac.1 Aa
   obtain ⟨c0, c2⟩ := Af.out X hJ.low
   obtain ⟨_, _, _, e1⟩ := hJ.get (i := 3) (d := 17) rfl (hd ⟨3, .data⟩ (by simp) rfl)
   have CM : ρ (.tmp 17) = .pointer (some ⟨bq, 2, none⟩) := e1
   clear e1
   refine ac (v := .slice ra T.rules.length rc) (w' := X) ?_ ⟨fun _ => hJ.put Ae.out dz (i := 4) (d := 18) rfl (Below.refl _ _) (rfl), fun e => by rw [am (by decide), Aa] at e; cases e⟩
   clear hd Ab hJ Ac hL Aa
   go_simp
 · intro ρ X L hc hf hL hd Ab Ac
   have Aa : L 16 = false := al (by kernel_rfl) Ab (k := 5) (by simp) hL
   have hJ := Ac.1 Aa
   obtain ⟨c0, c2⟩ := Af.out X hJ.low
   obtain ⟨_, _, _, e1⟩ := hJ.get (i := 4) (d := 18) rfl (hd ⟨4, .data⟩ (by simp) rfl)
   have Dm : ρ (.tmp 18) = .slice ra T.rules.length rc := e1
   clear e1
   refine ac (v := .int .i64 T.rules.length) (w' := X) ?_ ⟨fun _ => hJ.put Ae.out dz (i := 5) (d := 19) rfl (Below.refl _ _) (rfl), fun e => by rw [am (by decide), Aa] at e; cases e⟩
   clear hd Ab hJ Ac hL Aa
   go_simp
 · intro ρ X L hc hf hL hd Ab Ac
   have Aa : L 16 = false := al (by kernel_rfl) Ab (k := 6) (by simp) hL
   have hJ := Ac.1 Aa
   obtain ⟨c0, c2⟩ := Af.out X hJ.low
   obtain ⟨_, _, _, e1⟩ := hJ.get (i := 5) (d := 19) rfl (hd ⟨5, .data⟩ (by simp) rfl)
   have CQ : ρ (.tmp 19) = .int .i64 T.rules.length := e1
   have Bu := BX X
   clear e1
   refine ac (v := sl X.heap.size T.rules.length) (w' := X.alloc (.cells (Array.replicate T.rules.length (.int .i64 0)) 3)) ?_ ⟨fun _ => hJ.put Ae.out dz (i := 6) (d := 20) rfl (ae X _) (⟨X.heap.size, rfl, by unfold Fx; rw [heap_alloc_new, n8], Nat.le_refl _, by simp, hJ.low.size⟩), fun e => by rw [am (by decide), Aa] at e; cases e⟩
   clear hd Ab hJ Ac hL Aa
   go_simp
 · intro ρ X L hc hf hL hd Ab Ac
   have Aa : L 16 = false := al (by kernel_rfl) Ab (k := 7) (by simp) hL
   have hJ := Ac.1 Aa
   obtain ⟨c0, c2⟩ := Af.out X hJ.low
   have k3 : ρ (.tmp 3) = aa bq := hJ.base (3, aa bq) (by simp)
   refine ac (v := .pointer (some ⟨bq, 2, none⟩)) (w' := X) ?_ ⟨fun _ => hJ.put Ae.out dz (i := 7) (d := 21) rfl (Below.refl _ _) (rfl), fun e => by rw [am (by decide), Aa] at e; cases e⟩
   clear hd Ab hJ Ac hL Aa
   go_simp
 · intro ρ X L hc hf hL hd Ab Ac
   have Aa : L 16 = false := al (by kernel_rfl) Ab (k := 8) (by simp) hL
   have hJ := Ac.1 Aa
   obtain ⟨c0, c2⟩ := Af.out X hJ.low
   obtain ⟨_, _, _, e1⟩ := hJ.get (i := 7) (d := 21) rfl (hd ⟨7, .data⟩ (by simp) rfl)
   have Dn : ρ (.tmp 21) = .pointer (some ⟨bq, 2, none⟩) := e1
   clear e1
   refine ac (v := .slice ra T.rules.length rc) (w' := X) ?_ ⟨fun _ => hJ.put Ae.out dz (i := 8) (d := 22) rfl (Below.refl _ _) (rfl), fun e => by rw [am (by decide), Aa] at e; cases e⟩
   clear hd Ab hJ Ac hL Aa
   go_simp
 · intro ρ X L hc hf hL hd Ab Ac
   have Aa : L 16 = false := al (by kernel_rfl) Ab (k := 9) (by simp) hL
   have hJ := Ac.1 Aa
   obtain ⟨c0, c2⟩ := Af.out X hJ.low
   obtain ⟨_, _, _, e1⟩ := hJ.get (i := 8) (d := 22) rfl (hd ⟨8, .data⟩ (by simp) rfl)
   have Db : ρ (.tmp 22) = .slice ra T.rules.length rc := e1
   clear e1
   refine ac (v := .int .i64 T.rules.length) (w' := X) ?_ ⟨fun _ => hJ.put Ae.out dz (i := 9) (d := 23) rfl (Below.refl _ _) (rfl), fun e => by rw [am (by decide), Aa] at e; cases e⟩
   clear hd Ab hJ Ac hL Aa
   go_simp
 · intro ρ X L hc hf hL hd Ab Ac
   have Aa : L 16 = false := al (by kernel_rfl) Ab (k := 10) (by simp) hL
   have hJ := Ac.1 Aa
   obtain ⟨c0, c2⟩ := Af.out X hJ.low
   obtain ⟨_, _, _, e1⟩ := hJ.get (i := 9) (d := 23) rfl (hd ⟨9, .data⟩ (by simp) rfl)
   have CY : ρ (.tmp 23) = .int .i64 T.rules.length := e1
   have Bu := BQ X
   clear e1
   refine ac (v := sl X.heap.size T.rules.length) (w' := X.alloc (.cells (Array.replicate T.rules.length (.bool false)) 4)) ?_ ⟨fun _ => hJ.put Ae.out dz (i := 10) (d := 24) rfl (ae X _) (⟨X.heap.size, rfl, by unfold Fx cZ; rw [heap_alloc_new]; simp [List.map_const'], Nat.le_refl _, by simp, hJ.low.size⟩), fun e => by rw [am (by decide), Aa] at e; cases e⟩
   clear hd Ab hJ Ac hL Aa
   go_simp
 · intro ρ X L hc hf hL hd Ab Ac
   have Aa : L 16 = false := al (by kernel_rfl) Ab (k := 11) (by simp) hL
   have hJ := Ac.1 Aa
   obtain ⟨c0, c2⟩ := Af.out X hJ.low
   have k3 : ρ (.tmp 3) = aa bq := hJ.base (3, aa bq) (by simp)
   refine ac (v := aa bq) (w' := X) ?_ ⟨fun _ => hJ.put Ae.out dz (i := 11) (d := 25) rfl (Below.refl _ _) (rfl), fun e => by rw [am (by decide), Aa] at e; cases e⟩
   clear hd Ab hJ Ac hL Aa
   go_simp
 · intro ρ X L hc hf hL hd Ab Ac
   have Aa : L 16 = false := al (by kernel_rfl) Ab (k := 12) (by simp) hL
   have hJ := Ac.1 Aa
   obtain ⟨c0, c2⟩ := Af.out X hJ.low
   obtain ⟨_, _, _, e1⟩ := hJ.get (i := 11) (d := 25) rfl (hd ⟨11, .data⟩ (by simp) rfl)
   have Da : ρ (.tmp 25) = aa bq := e1
   clear e1
   refine ac (v := .int .i64 T.lits) (w' := X) ?_ ⟨fun _ => hJ.put Ae.out dz (i := 12) (d := 26) rfl (Below.refl _ _) (rfl), fun e => by rw [am (by decide), Aa] at e; cases e⟩
   clear hd Ab hJ Ac hL Aa
   go_simp
 · intro ρ X L hc hf hL hd Ab Ac
   have Aa : L 16 = false := al (by kernel_rfl) Ab (k := 13) (by simp) hL
   have hJ := Ac.1 Aa
   obtain ⟨c0, c2⟩ := Af.out X hJ.low
   obtain ⟨_, _, _, e1⟩ := hJ.get (i := 12) (d := 26) rfl (hd ⟨12, .data⟩ (by simp) rfl)
   have Dd : ρ (.tmp 26) = .int .i64 T.lits := e1
   have Bu := BF X
   clear e1
   refine ac (v := sl X.heap.size n) (w' := X.alloc (.cells (Array.replicate n (.int .i64 0)) 3)) ?_ ⟨fun _ => hJ.put Ae.out dz (i := 13) (d := 27) rfl (ae X _) (⟨X.heap.size, rfl, by unfold Fx; rw [heap_alloc_new, n8], Nat.le_refl _, by simp, hJ.low.size⟩), fun e => by rw [am (by decide), Aa] at e; cases e⟩
   clear hd Ab hJ Ac hL Aa
   go_simp
 · intro ρ X L hc hf hL hd Ab Ac
   have Aa : L 16 = false := al (by kernel_rfl) Ab (k := 14) (by simp) hL
   have hJ := Ac.1 Aa
   obtain ⟨c0, c2⟩ := Af.out X hJ.low
   obtain ⟨lo, hi, AS, BB⟩ := hJ.at_
   have l2 : L 2 = true := hd ⟨2, .data⟩ (by simp) rfl
   have l6 : L 6 = true := hd ⟨6, .data⟩ (by simp) rfl
   have Cj : L 10 = true := hd ⟨10, .data⟩ (by simp) rfl
   have BH : L 13 = true := hd ⟨13, .data⟩ (by simp) rfl
   obtain ⟨-, -, -, g0, e3, f3, a3, b3, n3⟩ := AS 2 16 rfl l2
   obtain ⟨-, -, -, g1, e6, f6, a6, b6, n6⟩ := AS 6 20 rfl l6
   obtain ⟨-, -, -, g2, e9, f9, a9, b9, n9⟩ := AS 10 24 rfl Cj
   obtain ⟨-, -, -, g3, BY, BL, CP, Dh, Cp⟩ := AS 13 27 rfl BH
   have d1 := BB 6 13 20 27 rfl rfl (by decide) l6 BH
   have Df : ρ (.tmp 16) = sl g0 n := e3
   have CR : ρ (.tmp 20) = sl g1 T.rules.length := e6
   have Di : ρ (.tmp 24) = sl g2 T.rules.length := e9
   have Dj : ρ (.tmp 27) = sl g3 n := BY
   refine ac (v := .agg #[sl g0 n, sl g1 T.rules.length, sl g2 T.rules.length, sl g3 n]) (w' := X) ?_ ⟨fun _ => hJ.put Ae.out dz (i := 14) (d := 28) rfl (Below.refl _ _) (⟨g0, g1, g2, g3, rfl, f3, f6, f9, BL, ⟨n3, n6, n9, Cp⟩, by omega⟩), fun e => by rw [am (by decide), Aa] at e; cases e⟩
   clear hd Ab hJ Ac hL Aa AS BB d1 e3 e6 e9 BY f3 f6 f9 BL
   go_simp
 · intro ρ X L hc hf hL hd Ab Ac
   have Aa : L 16 = false := al (by kernel_rfl) Ab (k := 15) (by simp) hL
   have hJ := Ac.1 Aa
   obtain ⟨c0, c2⟩ := Af.out X hJ.low
   refine ac (v := aa X.heap.size) (w' := X.alloc (.cells #[.slice none 0 0, .slice none 0 0, .slice none 0 0, .slice none 0 0] 178)) ?_ ⟨fun _ => hJ.put Ae.out dz (i := 15) (d := 7) rfl (ae X _) (⟨X.heap.size, [.slice none 0 0, .slice none 0 0, .slice none 0 0, .slice none 0 0], rfl, heap_alloc_new X _, rfl, hJ.low.size⟩), fun e => by rw [am (by decide), Aa] at e; cases e⟩
   clear hd Ab hJ Ac hL Aa
   go_simp
 · intro ρ X L hc hf hL hd Ab Ac
   have hJ := Ac.1 hL
   obtain ⟨_, _, _, g0, g1, g2, g3, BK, f0, f1, f2, f3, ⟨m0, m1, m2, m3⟩, d1⟩ := hJ.get (i := 14) (d := 28) rfl (hd ⟨14, .data⟩ (by simp) rfl)
   obtain ⟨_, _, _, q, xs, e7, h0, CI, hq⟩ := hJ.get (i := 15) (d := 7) rfl (hd ⟨15, .data⟩ (by simp) rfl)
   obtain ⟨t0, t1, t2, t3, rfl⟩ : ∃ t0 t1 t2 t3, xs = [t0, t1, t2, t3] := by
    match xs, CI with
    | [t0, t1, t2, t3], _ => exact ⟨t0, t1, t2, t3, rfl⟩
   have Dp : ρ (.tmp 28) = .agg #[sl g0 n, sl g1 T.rules.length, sl g2 T.rules.length, sl g3 n] := BK
   have k7 : ρ (.tmp 7) = aa q := e7
   have y0 := h0.get (i := 0) (v := t0) rfl
   have z0 := h0.frz 0
   have h1 := h0.set 0 (sl g0 n)
   have y1 := h1.get (i := 1) (v := t1) rfl
   have z1 := h1.frz 1
   have h2 := h1.set 1 (sl g1 T.rules.length)
   have y2 := h2.get (i := 2) (v := t2) rfl
   have z2 := h2.frz 2
   have h3 := h2.set 2 (sl g2 T.rules.length)
   have y3 := h3.get (i := 3) (v := t3) rfl
   have z3 := h3.frz 3
   have h4 := h3.set 3 (sl g3 n)
   have kp : ∀ {g t : Nat} {xs : List Value}, Fx g t xs X → t ≠ 178 → Fx g t xs ((((X.setCell ⟨q, 0, none⟩ (sl g0 n)).setCell ⟨q, 1, none⟩ (sl g1 T.rules.length)).setCell ⟨q, 2, none⟩ (sl g2 T.rules.length)).setCell ⟨q, 3, none⟩ (sl g3 n)) := fun hx ht => by
    have Ct := ao hx h0 ht
    exact hx.keep (by simp only [other_set Ct])
   have AJ : Hid (Fi T.rules.length n W0 (gk (fun s => ρ (.tmp s)) none undef) ((((X.setCell ⟨q, 0, none⟩ (sl g0 n)).setCell ⟨q, 1, none⟩ (sl g1 T.rules.length)).setCell ⟨q, 2, none⟩ (sl g2 T.rules.length)).setCell ⟨q, 3, none⟩ (sl g3 n))) := hide ⟨q, g0, g1, g2, g3, by rw [fT (by simp)]; exact k7, ⟨h4, kp f1 (by decide), kp f2 (by decide), kp f3 (by decide), yo (kp f0 (by decide)) m0, ⟨hq, m1, m2, m3⟩, d1, fun i v hv => by rw [List.getElem?_replicate] at hv; split at hv <;> cases hv; exact ⟨fun e => (by cases e), fun e => (by cases e)⟩⟩, ((((hJ.low.setCell (p := ⟨q, 0, none⟩) hq _).setCell (p := ⟨q, 1, none⟩) hq _).setCell (p := ⟨q, 2, none⟩) hq _).setCell (p := ⟨q, 3, none⟩) hq _)⟩
   refine cK (w' := ((((X.setCell ⟨q, 0, none⟩ (sl g0 n)).setCell ⟨q, 1, none⟩ (sl g1 T.rules.length)).setCell ⟨q, 2, none⟩ (sl g2 T.rules.length)).setCell ⟨q, 3, none⟩ (sl g3 n))) ?_ ⟨fun e => (by rw [aP] at e; cases e), fun _ => AJ.out⟩
   clear hd Ab hJ Ac hL kp AJ f0 f1 f2 f3 h1 h2 h3 h4 h0 BK e7
   go_simp
 · intro c a' w' _ hE
   exact hE.elim
 · rintro ⟨Ad, df⟩ w' Ay AW ⟨L, hL, hJ⟩ At
   simp only at AW Ay
   subst AW
   obtain ⟨q, us, ms, rr, op, e7, BN, BZ⟩ := hJ.2 (hL 16 (by decide))
   have e7 : Ad.getD 7 undef = aa q := e7
   have Av := eV 14 28 7 (by kernel_rfl) Ay At
   simp only [zs, Nat.reduceLT, Nat.reduceAdd, true_or, or_true, or_self, false_and, ne_eq, Nat.reduceEqDiff, not_false_eq_true, not_true_eq_false, and_self, and_false, if_true, if_false, e7] at Av
   rw [Av]
   clear Av hJ hL At Ay e7 Cd BQ BF BX Af Ae
   generalize Ad.getD 14 undef = x14
   generalize Ad.getD 15 undef = x15
   generalize Ad.getD 16 undef = x16
   generalize Ad.getD 17 undef = x17
   generalize Ad.getD 18 undef = x18
   generalize Ad.getD 19 undef = x19
   generalize Ad.getD 20 undef = x20
   generalize Ad.getD 21 undef = x21
   generalize Ad.getD 22 undef = x22
   generalize Ad.getD 23 undef = x23
   generalize Ad.getD 24 undef = x24
   generalize Ad.getD 25 undef = x25
   generalize Ad.getD 26 undef = x26
   generalize Ad.getD 27 undef = x27
   generalize Ad.getD 28 undef = x28
   have Ak := hide BN
   have Au : Hid (Below W.heap.size W w') := hide (HDr.out.trans (BZ.mono HDr.out.size))
   have By : W0.heap.size = W.heap.size := by rw [← Bx]; rfl
   rw [By] at Ak
   clear BN BZ By HDr HX1d
   have c2 := (AA.out.keep (Au.out.block _ AA.out.lt)).get (i := 2) rfl
   go_wp2_with fail
   clear c2
   go_loopw [32] (fun x wr => ∃ (k : Nat) (H : Nat → List (List Int)) (vs : Nat → List Value), k ≤ T.rules.length ∧ x = .int .i64 k ∧ Hid (Gu T (kD d1) n k 0 H) ∧ Hid (Nw W.heap.size q us ms rr op n T.rules.length (fV T (kD d1) k) (opK T (kD d2) k) H vs wr) ∧ Hid (Below W.heap.size W wr)) (fun x _ => T.rules.length - (intOf x).toNat)
   case atStart => exact ⟨0, _, _, by omega, rfl, hide Gu.start, Ak, Au⟩
   case round =>
    clear Ak Au
    obtain ⟨k, H, vs, hk, rfl, HG, HN, HBr⟩ := hrel
    by_cases Ax : k < T.rules.length
    · obtain ⟨r, hr⟩ := an Ax
      obtain ⟨h0, h1⟩ := HP.out.head r (List.mem_of_getElem? hr)
      obtain ⟨hm, Aw⟩ := Int.eq_ofNat_of_zero_le h0
      have AP : hm < n := by omega
      have AT : ah T k = (hm : Int) := by unfold ah; rw [Int.toNat_natCast, hr]; exact Aw
      have BO : aF T (kD d1) k = (kD d1) r := by unfold aF; rw [Int.toNat_natCast, hr]; rfl
      have AQ : aF T (kD d2) k = (kD d2) r := by unfold aF; rw [Int.toNat_natCast, hr]; rfl
      have AL : ax T k = r.body := by unfold ax; rw [Int.toNat_natCast, hr]; rfl
      have hR := TR.keep HBr.out.block Bl.out
      obtain ⟨gr, go, bd, bp, rfl, Bh, x0, x1, x2, -, BR, AK⟩ := en hR.rules hr
      have CJ : r.body.length ≤ 16 := (HP.out.ok.rule r (List.mem_of_getElem? hr)).2.2.2.2.1
      have CA : Hid r.body.Nodup := hide (dw (bW (by omega) (HP.out.ok.rule r (List.mem_of_getElem? hr)).2.2.2.2.2).2)
      have Cu : Hid (∀ x ∈ r.body, 0 ≤ x ∧ x < (n : Int)) := hide (HP.out.body r (List.mem_of_getElem? hr))
      have Cz : Hid (∀ X, Below W.heap.size W X → At1 X bd (au r.body)) := hide fun X hX => by
       have h2 := TR.keep hX.block Bl.out
       obtain ⟨g3, o3, b3, p3, e3, Cb, -, -, x3, -, -, Cr⟩ := en h2.rules hr
       cases e3
       have e4 : wr.cell? ⟨gr, go + k * 3 + 2, none⟩ = X.cell? ⟨gr, go + k * 3 + 2, none⟩ := (World.cell?_of_block (HBr.out.block gr Cb)).trans (World.cell?_of_block (hX.block gr Cb)).symm
       rw [x2, x3] at e4
       cases e4
       exact Cr.at1
      rw [Aw] at x1
      have AC := ae wr (.cells #[.int .i64 r.kind, .int .i64 hm, .slice bd r.body.length bp] 114)
      have HQ : Hid (Fx wr.heap.size 114 [.int .i64 r.kind, .int .i64 hm, .slice bd r.body.length bp] (wr.alloc (.cells #[.int .i64 r.kind, .int .i64 hm, .slice bd r.body.length bp] 114))) := hide (heap_alloc_new wr _)
      have HNq := hide (HN.out.go AC)
      have HBq := hide (HBr.out.trans (AC.mono HBr.out.size))
      have HRr := hide hr
      have Bq := hide AT
      have BV := hide BO
      have AD := hide AQ
      have Ba := hide AL
      have HL := hide Ax
      clear hr h0 h1 Aw hR AC AK HN HBr Bh AT BO AQ AL
      go_upto_region 5 with fail
      clear x0 x1 x2
      generalize wr.alloc (.cells #[.int .i64 r.kind, .int .i64 hm, .slice bd r.body.length bp] 114) = wq at *
      obtain ⟨qr, AV⟩ : ∃ qr, wr.heap.size = qr := ⟨_, rfl⟩
      rw [AV] at HQ ⊢
      clear AV
      have q0 := HQ.out.get (i := 0) rfl
      have q1 := HQ.out.get (i := 1) rfl
      have q2 := HQ.out.get (i := 2) rfl
      have CW := hide (H1.out wq r.kind (hm : Int) (.slice bd r.body.length bp))
      cases htk : d1 r.kind with
      | false =>
       have AH : Hid (kD d1 r = false) := hide htk
       have AO : Hid (fV T (kD d1) (k + 1) = fV T (kD d1) k) := hide (by rw [ot, BV.out, if_neg (by rw [AH.out]; decide)])
       have Al : Hid (opK T (kD d2) (k + 1) = opK T (kD d2) k) := hide (by rw [lC, AD.out, if_neg (by rw [show kD d2 r = false from HI.out _ AH.out]; decide)])
       rw [htk] at CW
       clear htk
       go_wp2_with (refine CW.out.mono ?_; rintro _ w3 ⟨rfl, hb⟩; have Ap := hide hb; clear hb)
       go_roundw
       case rel => exact ⟨k + 1, _, _, by have := HL.out; omega, by go_num, hide (HG.out.none HRr.out AH.out), hide (by rw [AO.out, Al.out]; exact HNq.out.go Ap.out), hide (HBq.out.trans (Ap.out.mono HBq.out.size))⟩
       case measure => have := HL.out; simp [intOf]; omega
      | true =>
       have AH : Hid (kD d1 r = true) := hide htk
       rw [htk] at CW
       clear htk
       have AO : Hid (fV T (kD d1) (k + 1) = ar (fV T (kD d1) k) k (r.body.length : Nat)) := hide (by rw [ot, BV.out, Ba.out, if_pos AH.out])
       go_upto_region 6 with (refine CW.out.mono ?_; rintro _ w3 ⟨rfl, hb⟩; have Ap := hide hb; clear hb)
       have AB := hide (HNq.out.go Ap.out)
       have AG := hide (HQ.out.keep (Ap.out.block _ HQ.out.lt))
       have BP := hide (HBq.out.trans (Ap.out.mono HBq.out.size))
       clear HNq HQ HBq Ap q0 q1 q2 CW
       have s1 := AB.out.bx.get (i := 1) rfl
       have q2 := AG.out.get (i := 2) rfl
       have cm := AB.out.fm.get (bz HL.out)
       have zm := AB.out.fm.frz k
       have Bn := hide (AB.out.setM HL.out (r.body.length : Nat))
       have BD := hide (AG.out.keep (w' := w3.setCell ⟨ms, k, none⟩ (.int .i64 (r.body.length : Nat))) (other_set (ao AG.out AB.out.fm (by decide))))
       have BE := hide (BP.out.setCell (p := ⟨ms, k, none⟩) AB.out.lo.2.1 (.int .i64 (r.body.length : Nat)))
       have q2' := BD.out.get (i := 2) rfl
       obtain ⟨Be, Bw⟩ : ∃ Be, ar (fV T (kD d1) k) k (r.body.length : Nat) = Be := ⟨_, rfl⟩
       rw [Bw] at Bn AO
       clear AB AG BP Bw
       go_wp2_with fail
       clear s1 q2 cm zm q2'
       go_loopw [51] (fun x wr => ∃ (j : Nat) (H : Nat → List (List Int)) (vs : Nat → List Value), j ≤ r.body.length ∧ x = .int .i64 j ∧ Hid (Gu T (kD d1) n k j H) ∧ Hid (Nw W.heap.size q us ms rr op n T.rules.length Be (opK T (kD d2) k) H vs wr) ∧ Hid (Below W.heap.size W wr) ∧ Hid (Fx qr 114 [.int .i64 r.kind, .int .i64 hm, .slice bd r.body.length bp] wr)) (fun x _ => r.body.length - (intOf x).toNat)
       case atStart => exact ⟨0, _, _, by omega, rfl, HG, Bn, BE, BD⟩
       case round =>
        clear HG Bn BE BD
        rename World => wr3
        obtain ⟨j, H, vs, hj, rfl, HG, HN, HBq, HQ⟩ := hrel
        by_cases hjl : j < r.body.length
        · obtain ⟨x0, hx⟩ := an hjl
          obtain ⟨y0, y1⟩ := Cu.out x0 (List.mem_of_getElem? hx)
          obtain ⟨x, rfl⟩ := Int.eq_ofNat_of_zero_le y0
          have BA : x < n := by omega
          obtain ⟨gx, ox, rfl, cx⟩ := (Cz.out wr3 HBq.out).get hx
          have HXx := hide hx
          have Cg : Hid (∀ (c i : Nat) (l : List Int), c < 1 → (H c)[i]? = some l → l.length ≤ 4096) := hide fun c i l hc hl => HG.out.len (by have := HL.out; omega) (z := i) (by rw [← (show c = 0 by omega)]; exact hl)
          clear hx y0 y1
          go_upto_region 10 with fail
          have AI := (Below.refl wr3.heap.size wr3).drew
          have HNd0 := hide (HN.out.go AI)
          have HQd0 := hide (HQ.out.keep (AI.block _ HQ.out.lt))
          have HBd0 := hide (HBq.out.trans (AI.mono HBq.out.size))
          obtain ⟨wd, Br⟩ : ∃ wd, wr3.drew = wd := ⟨_, rfl⟩
          rw [Br] at HNd0 HQd0 HBd0
          obtain ⟨l0, Ao, An, Bo, Cc, Bb, Az⟩ := HNd0.out.h3.at (c := 0) (by omega) (show x < n from BA)
          have Bb : wd.cell? ⟨us, x, none⟩ = some (.slice Ao l0.length An) := Bb
          have CK : l0.length ≤ 4096 := Cg.out 0 _ _ (by omega) Bo
          have AR := ae wd (.cells #[.int .i64 k] 3)
          have BC : W.heap.size ≤ wd.heap.size := HBd0.out.size
          obtain ⟨Ar, Am, w2, BJ, Bf, Ah, Bp, Ce⟩ := run_append_lies (P := Tryz.prog) (wd.alloc (.cells #[.int .i64 k] 3)) 26 26 W.heap.size 3 iI _ 1 8 Tryz.underlying26 Bv Bi Bk Bj rfl (by decide) (.slice Ao l0.length An) l0.length (au l0) (owns_keep Az fun g hg => AR.block g (aB Az hg)) ⟨wd.heap.size, 0, none⟩ 1 1 [.int .i64 k] rfl (World.news_of_block (cs := [.int .i64 k].toArray) (t := 3) (fr := (0, 0)) (heap_alloc_new wd (.cells #[.int .i64 k] 3))) (by simp [Value.oneCell']) (by decide) (by unfold maxLen; omega) (by omega) (by simp; omega) (wd.heap.size + 1) (by simp)
          have Ca := hide BJ
          have Aq : ∀ k, k < wd.heap.size → Value.ownBlock (.slice Ao l0.length An) ≠ some k → w2.heap[k]? = wd.heap[k]? := fun k hk hn => (Ah.block k (by simp; omega) fun e => hn e.symm).trans (AR.block k hk)
          have AZ := az Az (HNd0.out.h3.fx 0 (by omega)) (by decide)
          have AY := az Az HQd0.out (by decide)
          have Bm := az Az HNd0.out.bx (by decide)
          obtain ⟨w3, AM⟩ : ∃ w3, w2.setCell ⟨us, x, none⟩ (.slice (some ⟨Ar, 0, none⟩) (l0.length + 1) Am) = w3 := ⟨_, rfl⟩
          have BI := hide AM
          have HN0a : Hid (Nw W.heap.size q us ms rr op n T.rules.length Be (opK T (kD d2) k) (up H 0 ((H 0).set x (l0 ++ [(k : Int)]))) (up vs 0 ((vs 0).set x (.slice (some ⟨Ar, 0, none⟩) (l0.length + 1) Am))) w3) := hide (by rw [← AM]; exact HNd0.out.add (c := 0) (by omega) Bo Cc Bf Aq (by rcases Bp with h | h; exact .inl h; exact .inr (by omega)))
          have AG : Hid (Fx qr 114 [.int .i64 r.kind, .int .i64 hm, .slice (some ⟨gx, ox, none⟩) r.body.length bp] w3) := hide (by rw [← AM]; exact (HQd0.out.keep (Aq _ HQd0.out.lt AY)).keep (other_set (ao HQd0.out (HNd0.out.h3.fx 0 (by omega)) (by decide))))
          have Ap : Hid (Below W.heap.size W w3) := hide (by rw [← AM]; exact (HBd0.out.trans (show Below W.heap.size wd w2 from (AR.mono BC).trans ⟨Ah.os, Ah.tape, Ah.output, Ah.size, fun k hk => Ah.block k (by simp; omega) fun e => by have := (Az.lt k e.symm).1; omega⟩)).setCell (p := ⟨us, x, none⟩) (HNd0.out.h3.lo 0 (by omega)) (.slice (some ⟨Ar, 0, none⟩) (l0.length + 1) Am))
          have Bc : ∀ {a : Addr} {v : Value}, wd.cell? a = some v → Value.ownBlock (.slice Ao l0.length An) ≠ some a.block → ∀ X, X = wd ∨ X = wd.alloc (.cells #[.int .i64 k] 3) ∨ X = w2 → X.cell? a = some v := fun ha hn X hX => by
           have Ax := World.block_lt_of_cell? wd _ ha
           rcases hX with rfl | rfl | rfl
           · exact ha
           · exact ay ha AR
           · exact (World.cell?_of_block (Aq _ Ax hn)).trans ha
          have LH := hide (Bc (HNd0.out.bx.get (i := 0) (v := sl us n) rfl) Bm)
          have LQ := hide (Bc (HQd0.out.get (i := 1) rfl) AY)
          have LR := hide (Bc Bb AZ)
          have q1 : w2.cell? ⟨us, x, none⟩ = some (.slice Ao l0.length An) := LR.out w2 (.inr (.inr rfl))
          have q2 : w2.frozen? ⟨us, x, none⟩ = false := ((HNd0.out.h3.fx 0 (by omega)).keep (Aq _ (HNd0.out.h3.fx 0 (by omega)).lt AZ)).frz x
          have Aj : Hid (gV ([some (55, .pointer (some ⟨q, 0, none⟩)), some (56, sl us n), some (57, .int .i64 x), some (58, .pointer (some ⟨q, 0, none⟩)), some (59, sl us n), some (60, .int .i64 x), some (61, .pointer (some ⟨us, x, none⟩)), some (62, .slice Ao l0.length An), some (63, .int .i64 k), some (64, .slice (some ⟨wd.heap.size, 0, none⟩) 1 1), some (65, .slice (some ⟨Ar, 0, none⟩) (l0.length + 1) Am), some (66, .pointer (some ⟨us, x, none⟩)), none].map fun p : Option (Nat × Value) => p.map Prod.fst) [(7, aa q), (11, .int .i64 x), (8, .int .i64 k)] = true) := hide rfl
          clear HN HQ HBq Bb Ah Bf BJ AY Bm AZ Cc Bp Ce Bc Aq AR Az HNd0 HQd0 HBd0 BC AI AM
          refine cH gF (Jt [some (55, .pointer (some ⟨q, 0, none⟩)), some (56, sl us n), some (57, .int .i64 x), some (58, .pointer (some ⟨q, 0, none⟩)), some (59, sl us n), some (60, .int .i64 x), some (61, .pointer (some ⟨us, x, none⟩)), some (62, .slice Ao l0.length An), some (63, .int .i64 k), some (64, .slice (some ⟨wd.heap.size, 0, none⟩) 1 1), some (65, .slice (some ⟨Ar, 0, none⟩) (l0.length + 1) Am), some (66, .pointer (some ⟨us, x, none⟩)), none] [(7, aa q), (11, .int .i64 x), (8, .int .i64 k)] (gy 9 10 12 wd (wd.alloc (.cells #[.int .i64 k] 3)) w2 w3)) (by kernel_rfl) (by kernel_rfl) ?_ (cV ⟨?_, ?_, ?_, ?_, ?_, ?_, ?_, ?_, ?_, ?_, ?_, ?_, ?_, trivial⟩) ?_ ?_
          · exact ⟨fun p hp => by simp at hp; rcases hp with rfl | rfl | rfl <;> rfl, fun i d v _ hL => (by cases hL), Br⟩
          · intro ρ X L hc hf hL hd Ab hJ
            have k7 : ρ (.tmp 7) = aa q := hJ.base (7, aa q) (by simp)
            refine ac (v := .pointer (some ⟨q, 0, none⟩)) (w' := X) ?_ (hJ.put Aj.out rfl (by rw [ap (by decide) (by decide) (by decide)]; exact hJ.wd))
            clear hd Ab hJ hL
            go_simp
          · intro ρ X L hc hf hL hd Ab hJ
            have CV : ρ (.tmp 55) = .pointer (some ⟨q, 0, none⟩) := hJ.vals 0 55 (.pointer (some ⟨q, 0, none⟩)) rfl (hd ⟨0, .data⟩ (by simp) rfl)
            have Ai : L 12 = false := al (by kernel_rfl) Ab (k := 1) (by simp) hL
            have hx := LH.out X (bA hJ.wd Ai)
            clear Ai
            refine ac (v := sl us n) (w' := X) ?_ (hJ.put Aj.out rfl (by rw [ap (by decide) (by decide) (by decide)]; exact hJ.wd))
            clear hd Ab hJ hL
            go_simp
          · intro ρ X L hc hf hL hd Ab hJ
            have CE : ρ (.tmp 11) = .int .i64 x := hJ.base (11, .int .i64 x) (by simp)
            refine ac (v := .int .i64 x) (w' := X) ?_ (hJ.put Aj.out rfl (by rw [ap (by decide) (by decide) (by decide)]; exact hJ.wd))
            clear hd Ab hJ hL
            go_simp
          · intro ρ X L hc hf hL hd Ab hJ
            have k7 : ρ (.tmp 7) = aa q := hJ.base (7, aa q) (by simp)
            refine ac (v := .pointer (some ⟨q, 0, none⟩)) (w' := X) ?_ (hJ.put Aj.out rfl (by rw [ap (by decide) (by decide) (by decide)]; exact hJ.wd))
            clear hd Ab hJ hL
            go_simp
          · intro ρ X L hc hf hL hd Ab hJ
            have Dc : ρ (.tmp 58) = .pointer (some ⟨q, 0, none⟩) := hJ.vals 3 58 (.pointer (some ⟨q, 0, none⟩)) rfl (hd ⟨3, .data⟩ (by simp) rfl)
            have Ai : L 12 = false := al (by kernel_rfl) Ab (k := 4) (by simp) hL
            have hx := LH.out X (bA hJ.wd Ai)
            clear Ai
            refine ac (v := sl us n) (w' := X) ?_ (hJ.put Aj.out rfl (by rw [ap (by decide) (by decide) (by decide)]; exact hJ.wd))
            clear hd Ab hJ hL
            go_simp
          · intro ρ X L hc hf hL hd Ab hJ
            have CE : ρ (.tmp 11) = .int .i64 x := hJ.base (11, .int .i64 x) (by simp)
            refine ac (v := .int .i64 x) (w' := X) ?_ (hJ.put Aj.out rfl (by rw [ap (by decide) (by decide) (by decide)]; exact hJ.wd))
            clear hd Ab hJ hL
            go_simp
          · intro ρ X L hc hf hL hd Ab hJ
            have Dl : ρ (.tmp 59) = sl us n := hJ.vals 4 59 (sl us n) rfl (hd ⟨4, .data⟩ (by simp) rfl)
            have Do : ρ (.tmp 60) = .int .i64 x := hJ.vals 5 60 (.int .i64 x) rfl (hd ⟨5, .data⟩ (by simp) rfl)
            refine ac (v := .pointer (some ⟨us, x, none⟩)) (w' := X) ?_ (hJ.put Aj.out rfl (by rw [ap (by decide) (by decide) (by decide)]; exact hJ.wd))
            clear hd Ab hJ hL
            go_simp
          · intro ρ X L hc hf hL hd Ab hJ
            have CN : ρ (.tmp 61) = .pointer (some ⟨us, x, none⟩) := hJ.vals 6 61 (.pointer (some ⟨us, x, none⟩)) rfl (hd ⟨6, .data⟩ (by simp) rfl)
            have Ai : L 12 = false := al (by kernel_rfl) Ab (k := 7) (by simp) hL
            have hx := LR.out X (bA hJ.wd Ai)
            clear Ai
            refine ac (v := .slice Ao l0.length An) (w' := X) ?_ (hJ.put Aj.out rfl (by rw [ap (by decide) (by decide) (by decide)]; exact hJ.wd))
            clear hd Ab hJ hL
            go_simp
          · intro ρ X L hc hf hL hd Ab hJ
            have k8 : ρ (.tmp 8) = .int .i64 k := hJ.base (8, .int .i64 k) (by simp)
            refine ac (v := .int .i64 k) (w' := X) ?_ (hJ.put Aj.out rfl (by rw [ap (by decide) (by decide) (by decide)]; exact hJ.wd))
            clear hd Ab hJ hL
            go_simp
          · intro ρ X L hc hf hL hd Ab hJ
            have CZ : ρ (.tmp 63) = .int .i64 k := hJ.vals 8 63 (.int .i64 k) rfl (hd ⟨8, .data⟩ (by simp) rfl)
            have AE : L 10 = false := by cases e : L 10 with | false => rfl | true => (have := Ab 10 _ rfl e ⟨9, .data⟩ (by simp) rfl; rw [show (⟨9, .data⟩ : Edge).on = 9 from rfl] at this; rw [hL] at this; cases this)
            have Ai : L 12 = false := al (by kernel_rfl) Ab (k := 9) (by simp) hL
            have hX := hJ.wd.trans (lM hL AE Ai)
            refine ac (v := .slice (some ⟨wd.heap.size, 0, none⟩) 1 1) (w' := wd.alloc (.cells #[.int .i64 k] 3)) ?_ (hJ.put Aj.out rfl ((fw aP (by rw [am (by decide)]; exact AE) (by rw [am (by decide)]; exact Ai)).symm))
            subst hX
            clear hd Ab hJ hL AE Ai
            go_simp
          · intro ρ X L hc hf hL hd Ab hJ
            have Cx : ρ (.tmp 62) = .slice Ao l0.length An := hJ.vals 7 62 (.slice Ao l0.length An) rfl (hd ⟨7, .data⟩ (by simp) rfl)
            have Cm : ρ (.tmp 64) = .slice (some ⟨wd.heap.size, 0, none⟩) 1 1 := hJ.vals 9 64 (.slice (some ⟨wd.heap.size, 0, none⟩) 1 1) rfl (hd ⟨9, .data⟩ (by simp) rfl)
            have Ch : L 9 = true := hd ⟨9, .data⟩ (by simp) rfl
            have Ai : L 12 = false := al (by kernel_rfl) Ab (k := 10) (by simp) hL
            have hX := hJ.wd.trans (fw Ch hL Ai)
            refine fL _ _ 26 rfl Cx Cm (u := .slice (some ⟨Ar, 0, none⟩) (l0.length + 1) Am) (w' := w2) (by rw [hX]; exact Ca.out) (hJ.put Aj.out rfl ((fg aP (by rw [am (by decide)]; exact Ai)).symm))
          · intro ρ X L hc hf hL hd Ab hJ
            have CX : ρ (.tmp 56) = sl us n := hJ.vals 1 56 (sl us n) rfl (hd ⟨1, .data⟩ (by simp) rfl)
            have CO : ρ (.tmp 57) = .int .i64 x := hJ.vals 2 57 (.int .i64 x) rfl (hd ⟨2, .data⟩ (by simp) rfl)
            refine ac (v := .pointer (some ⟨us, x, none⟩)) (w' := X) ?_ (hJ.put Aj.out rfl (by rw [ap (by decide) (by decide) (by decide)]; exact hJ.wd))
            clear hd Ab hJ hL
            go_simp
          · intro ρ X L hc hf hL hd Ab hJ
            have CU : ρ (.tmp 66) = .pointer (some ⟨us, x, none⟩) := hJ.vals 11 66 (.pointer (some ⟨us, x, none⟩)) rfl (hd ⟨11, .data⟩ (by simp) rfl)
            have CT : ρ (.tmp 65) = .slice (some ⟨Ar, 0, none⟩) (l0.length + 1) Am := hJ.vals 10 65 (.slice (some ⟨Ar, 0, none⟩) (l0.length + 1) Am) rfl (hd ⟨10, .data⟩ (by simp) rfl)
            have AE : L 10 = true := hd ⟨10, .data⟩ (by simp) rfl
            have hX := hJ.wd.trans (fg AE hL)
            refine cK (w' := w3) ?_ (hJ.last rfl ((fj aP).symm))
            subst hX
            clear hd Ab hJ hL AE
            rw [← BI.out]
            go_simp
          · intro c a' w' _ hE
            exact hE.elim
          · rintro ⟨Ad, df⟩ w' Ay AW ⟨L, hL, hJ⟩ At
            simp only at AW Ay
            subst AW
            have CH : w3 = w' := (hJ.wd.trans (fj (hL 12 (by decide)))).symm
            subst CH
            have Av := eh 55 66 (by kernel_rfl) Ay At
            simp only [zr, Nat.reduceLT, Nat.reduceAdd, true_or, or_true, or_self, if_true, if_false] at Av
            rw [Av]
            clear Av hJ hL At Ay Aj Ca BI LH LQ LR q1 q2 Br
            generalize Ad.getD 55 undef = x55
            generalize Ad.getD 56 undef = x56
            generalize Ad.getD 57 undef = x57
            generalize Ad.getD 58 undef = x58
            generalize Ad.getD 59 undef = x59
            generalize Ad.getD 60 undef = x60
            generalize Ad.getD 61 undef = x61
            generalize Ad.getD 62 undef = x62
            generalize Ad.getD 63 undef = x63
            generalize Ad.getD 64 undef = x64
            generalize Ad.getD 65 undef = x65
            generalize Ad.getD 66 undef = x66
            have Bd := hide (HG.out.add HRr.out CA.out HXx.out BA Bo)
            go_wp2_with fail
            go_roundw
            case rel => exact ⟨j + 1, _, _, by omega, by go_num, Bd, HN0a, Ap, AG⟩
            case measure => simp [intOf]; omega
        · have Bd := hide (HG.out.next HRr.out AH.out (by omega))
          have q0 := HQ.out.get (i := 0) rfl
          have q1 := HQ.out.get (i := 1) rfl
          have q2 := HQ.out.get (i := 2) rfl
          have CL := hide (H2.out wr3 r.kind (hm : Int) (.slice bd r.body.length bp))
          cases htk : d2 r.kind with
          | false =>
           have As : Hid ((kD d2) r = false) := hide htk
           rw [htk] at CL
           clear htk
           have Al : Hid (opK T (kD d2) (k + 1) = opK T (kD d2) k) := hide (by rw [lC, AD.out, if_neg (by rw [As.out]; decide)])
           go_wp2_with (refine CL.out.mono ?_; rintro _ w5 ⟨rfl, hb⟩; have Ag := hide hb; clear hb)
           go_roundw
           case rel => exact ⟨k + 1, _, _, by have := HL.out; omega, by go_num, Bd, hide (by rw [AO.out, Al.out]; exact HN.out.go Ag.out), hide (HBq.out.trans (Ag.out.mono HBq.out.size))⟩
           case measure => have := HL.out; simp [intOf]; omega
          | true =>
           have As : Hid ((kD d2) r = true) := hide htk
           rw [htk] at CL
           clear htk
           have Al : Hid (opK T (kD d2) (k + 1) = ar (opK T (kD d2) k) hm (aH (opK T (kD d2) k hm))) := hide (by rw [lC, AD.out, if_pos As.out, Bq.out])
           go_upto_region 13 with (refine CL.out.mono ?_; rintro _ w5 ⟨rfl, hb⟩; have Ag := hide hb; clear hb)
           have AF := hide (HN.out.go Ag.out)
           have BT := hide (HQ.out.keep (Ag.out.block _ HQ.out.lt))
           have BM := hide (HBq.out.trans (Ag.out.mono HBq.out.size))
           clear HN HQ HBq Ag q0 q1 q2 CL
           have s3 := AF.out.bx.get (i := 3) rfl
           have q1 := BT.out.get (i := 1) rfl
           have co := AF.out.fo.get (bz AP)
           have zo := AF.out.fo.frz hm
           obtain ⟨v1, BG⟩ : ∃ v1, IntKind.i64.wrap (opK T (kD d2) k hm + 1) = v1 := ⟨_, rfl⟩
           have HV : Hid (aH (opK T (kD d2) k hm) = v1) := hide BG
           have CC := hide (AF.out.setO AP v1)
           have Cs := hide (BM.out.setCell (p := ⟨op, hm, none⟩) AF.out.lo.2.2.2 (.int .i64 v1))
           generalize opK T (kD d2) k hm = xo at co BG
           clear AF BT BM
           go_wp2_with fail
           go_roundw
           case rel => exact ⟨k + 1, _, _, by have := HL.out; omega, by go_num, Bd, hide (by rw [AO.out, Al.out, HV.out]; exact CC.out), Cs⟩
           case measure => have := HL.out; simp [intOf]; omega
    · have AX : k = T.rules.length := by omega
      have Ak : Hid (Nw W.heap.size q us ms rr op n T.rules.length (fV T (kD d1) T.rules.length) (eP T (kD d2) (opK T (kD d2) T.rules.length) 0) H vs wr) := hide (by have := HN.out; rw [AX] at this; exact this)
      have Ck : Hid (Gu T (kD d1) n T.rules.length 0 H) := hide (by have := HG.out; rw [AX] at this; exact this)
      have Au := hide HBr.out
      clear HN HG HBr AX
      have c2 := (AA.out.keep (Au.out.block _ AA.out.lt)).get (i := 2) rfl
      go_wp2_with fail
      clear c2
      go_loopw [83] (fun x wr => ∃ k : Nat, k ≤ T.rules.length ∧ x = .int .i64 k ∧ Hid (Nw W.heap.size q us ms rr op n T.rules.length (fV T (kD d1) T.rules.length) (eP T (kD d2) (opK T (kD d2) T.rules.length) k) H vs wr) ∧ Hid (Below W.heap.size W wr)) (fun x _ => T.rules.length - (intOf x).toNat)
      case atStart => exact ⟨0, by omega, rfl, Ak, Au⟩
      case round =>
       clear Ak Au
       rename World => wr5
       obtain ⟨k, hk, rfl, HN, HBr⟩ := hrel
       by_cases Ax : k < T.rules.length
       · obtain ⟨r, hr⟩ := an Ax
         obtain ⟨h0, h1⟩ := HP.out.head r (List.mem_of_getElem? hr)
         obtain ⟨hm, Aw⟩ := Int.eq_ofNat_of_zero_le h0
         have AP : hm < n := by omega
         have AT : ah T k = (hm : Int) := by unfold ah; rw [Int.toNat_natCast, hr]; exact Aw
         have AQ : aF T (kD d2) k = (kD d2) r := by unfold aF; rw [Int.toNat_natCast, hr]; rfl
         have AL : ax T k = r.body := by unfold ax; rw [Int.toNat_natCast, hr]; rfl
         have hR := TR.keep HBr.out.block Bl.out
         obtain ⟨gr, go, bd, bp, rfl, Bh, x0, x1, x2, -, BR, AK⟩ := en hR.rules hr
         rw [Aw] at x1
         have AC := ae wr5 (.cells #[.int .i64 r.kind, .int .i64 hm, .slice bd r.body.length bp] 114)
         have HQ : Hid (Fx wr5.heap.size 114 [.int .i64 r.kind, .int .i64 hm, .slice bd r.body.length bp] (wr5.alloc (.cells #[.int .i64 r.kind, .int .i64 hm, .slice bd r.body.length bp] 114))) := hide (heap_alloc_new wr5 _)
         have HNq := hide (HN.out.go AC)
         have HBq := hide (HBr.out.trans (AC.mono HBr.out.size))
         have Bq := hide AT
         have AD := hide AQ
         have Ba := hide AL
         have HL := hide Ax
         clear hr h0 h1 Aw hR AC AK HN HBr Bh AT AQ AL
         go_upto_region 18 with fail
         clear x0 x1 x2
         generalize wr5.alloc (.cells #[.int .i64 r.kind, .int .i64 hm, .slice bd r.body.length bp] 114) = wq at *
         obtain ⟨qr, AV⟩ : ∃ qr, wr5.heap.size = qr := ⟨_, rfl⟩
         rw [AV] at HQ ⊢
         clear AV
         have q0 := HQ.out.get (i := 0) rfl
         have q1 := HQ.out.get (i := 1) rfl
         have q2 := HQ.out.get (i := 2) rfl
         have CL := hide (H2.out wq r.kind (hm : Int) (.slice bd r.body.length bp))
         cases htk : d2 r.kind with
         | false =>
          have As : Hid ((kD d2) r = false) := hide htk
          have Al : Hid (eP T (kD d2) (opK T (kD d2) T.rules.length) (k + 1) = eP T (kD d2) (opK T (kD d2) T.rules.length) k) := hide (by rw [kP, AD.out, As.out]; rfl)
          rw [htk] at CL
          clear htk
          go_wp2_with (refine CL.out.mono ?_; rintro _ w5 ⟨rfl, hb⟩; have Ag := hide hb; clear hb)
          go_roundw
          case rel => exact ⟨k + 1, by have := HL.out; omega, by go_num, hide (by rw [Al.out]; exact HNq.out.go Ag.out), hide (HBq.out.trans (Ag.out.mono HBq.out.size))⟩
          case measure => have := HL.out; simp [intOf]; omega
         | true =>
          have As : Hid ((kD d2) r = true) := hide htk
          rw [htk] at CL
          clear htk
          by_cases he : r.body.length = 0
          · have AN : r.body.isEmpty = true := by rw [List.isEmpty_iff]; exact List.eq_nil_of_length_eq_zero he
            have Al : Hid (eP T (kD d2) (opK T (kD d2) T.rules.length) (k + 1) = ar (eP T (kD d2) (opK T (kD d2) T.rules.length) k) hm 0) := hide (by rw [kP, AD.out, As.out, Ba.out, AN, Bq.out]; rfl)
            have BW : ((r.body.length : Int) == 0) = true := by simpa using he
            have Bg : Hid (∀ X, Below wq.heap.size wq X → X.cell? ⟨qr, 1, none⟩ = some (.int .i64 hm) ∧ X.cell? ⟨qr, 2, none⟩ = some (.slice bd r.body.length bp) ∧ X.cell? ⟨q, 3, none⟩ = some (sl op n) ∧ X.cell? ⟨op, hm, none⟩ = some (.int .i64 (eP T (kD d2) (opK T (kD d2) T.rules.length) k hm)) ∧ X.frozen? ⟨op, hm, none⟩ = false) := hide fun X hX => by
             have a := HQ.out.keep (hX.block _ HQ.out.lt)
             have b := HNq.out.go hX
             exact ⟨a.get (i := 1) rfl, a.get (i := 2) rfl, b.bx.get (i := 3) rfl, b.fo.get (bz AP), b.fo.frz hm⟩
            clear AN
            rw [he] at *
            go_wp2_with (refine CL.out.mono ?_; rintro _ w5 ⟨rfl, hb⟩; have Ag := hide hb; obtain ⟨k1, k2, k3, k4, k5⟩ := Bg.out w5 hb; clear hb)
            go_roundw
            case rel => exact ⟨k + 1, by have := HL.out; omega, by go_num, hide (by rw [Al.out]; exact (HNq.out.go Ag.out).setO AP 0), hide ((HBq.out.trans (Ag.out.mono HBq.out.size)).setCell (p := ⟨op, hm, none⟩) HNq.out.lo.2.2.2 (.int .i64 0))⟩
            case measure => have := HL.out; simp [intOf]; omega
          · have AN : r.body.isEmpty = false := by cases hb : r.body with
             | nil => rw [hb] at he; simp at he
             | cons _ _ => rfl
            have Al : Hid (eP T (kD d2) (opK T (kD d2) T.rules.length) (k + 1) = eP T (kD d2) (opK T (kD d2) T.rules.length) k) := hide (by rw [kP, AD.out, As.out, Ba.out, AN]; rfl)
            have BW : ((r.body.length : Int) == 0) = false := by simpa using he
            have CF : (r.body.length == 0) = false := by simpa using he
            have Bg : Hid (∀ X, Below wq.heap.size wq X → X.cell? ⟨qr, 2, none⟩ = some (.slice bd r.body.length bp)) := hide fun X hX => (HQ.out.keep (hX.block _ HQ.out.lt)).get (i := 2) rfl
            obtain ⟨bl, Cf⟩ : ∃ bl, r.body.length = bl := ⟨_, rfl⟩
            rw [Cf] at Bg he BW CF CL q2 BR
            clear AN
            go_wp2_with (refine CL.out.mono ?_; rintro _ w5 ⟨rfl, hb⟩; have Ag := hide hb; have k2 := Bg.out w5 hb; clear hb)
            go_roundw
            case rel => exact ⟨k + 1, by have := HL.out; omega, by go_num, hide (by rw [Al.out]; exact HNq.out.go Ag.out), hide (HBq.out.trans (Ag.out.mono HBq.out.size))⟩
            case measure => have := HL.out; simp [intOf]; omega
       · have AX : k = T.rules.length := by omega
         have Ak : Hid (Nw W.heap.size q us ms rr op n T.rules.length (fV T (kD d1) T.rules.length) (eP T (kD d2) (opK T (kD d2) T.rules.length) T.rules.length) H vs wr5) := hide (by have := HN.out; rw [AX] at this; exact this)
         clear HN
         have c0 := Ak.out.bx.get (i := 0) rfl
         have c1 := Ak.out.bx.get (i := 1) rfl
         have c2 := Ak.out.bx.get (i := 2) rfl
         have c3 := Ak.out.bx.get (i := 3) rfl
         have HX2r := hide (AU.out.keep (HBr.out.block _ AU.out.lt))
         have CS : bq + 1 < W.heap.size := AU.out.lt
         go_upto_region 21 with fail
         refine wp_region_lit ?_
         refine wpList_plain rfl fun K hK => ?_
         go_simp
         refine hK _ _ ?_
         clear hK
         refine wpList_plain rfl fun K hK => ?_
         refine wp_store_row 178 _ _ rfl (bq + 1) _ rfl rfl _ _ HX2r.out (by kernel_rfl) rfl (by simp [sl, Value.oneCell']) ?_
         refine hK _ _ ?_
         clear hK
         have AJ := hide (setRow_heap wr5 (bq + 1) _ #[sl us n, sl ms T.rules.length, sl rr T.rules.length, sl op n] _ _ HX2r.out)
         have Cl := hide (Ak.out.far (w' := wr5.setRow (bq + 1) #[sl us n, sl ms T.rules.length, sl rr T.rules.length, sl op n]) (fun g hg _ => setRow_other _ _ _ _ (by omega)) HB.out.size)
         have CG := hide (mJ (b := bq + 1) (HB.out.trans (HBr.out.mono HB.out.size)) (by rw [Co.out]; omega) #[sl us n, sl ms T.rules.length, sl rr T.rules.length, sl op n])
         generalize wr5.setRow (bq + 1) #[sl us n, sl ms T.rules.length, sl rr T.rules.length, sl op n] = Y at *
         clear Ak HBr c0 c1 c2 c3 HX2r AU
         go_wp2_with fail
         refine bodyPost_ret (v := .agg #[sl us n, sl ms T.rules.length, sl rr T.rules.length, sl op n]) (EV rfl AJ.out) rfl ?_
         exact ⟨q, us, ms, rr, op, vs, H, rfl, Cl.out, fun z hz => by have := Ck.out.u z hz; simpa using this, CG.out⟩
theorem oZ {w : World} {T : Th} {F : List Int} {n : Nat} {fa ra ba : Option Addr} {fc rc bc : Nat} (h : TA w.heap.size w T fa fc ra rc ba bc) (hp : Pf T F n) :
    Calls Tryz.prog 173 #[tv T fa fc ra rc ba bc, .func (.func 174) #[] #[], .func (.func 174) #[] #[]] w fun o w' => ∃ q us ms rr op vs H, o = .returned (.agg (tP us ms rr op n T.rules.length).toArray) ∧ Nw w.heap.size q us ms rr op n T.rules.length (fV T kS T.rules.length) (eP T kS (opK T kS T.rules.length) T.rules.length) H vs w' ∧ (∀ z : Nat, z < n → (H 0).getD z [] = dR T kS T.rules.length z) ∧ Below w.heap.size w w' :=
 mN (d1 := fun k => decide (k = 1)) (d2 := fun k => decide (k = 1)) (fun _ _ _ _ => gO) (fun _ _ _ _ => gO) (fun _ e => e) (enters_go Tryz.func174 (by kernel_rfl) (by kernel_rfl)) (enters_go Tryz.func174 (by kernel_rfl) (by kernel_rfl)) h hp
theorem qN {w : World} {T : Th} {F : List Int} {n : Nat} {fa ra ba : Option Addr} {fc rc bc : Nat} (h : TA w.heap.size w T fa fc ra rc ba bc) (hp : Pf T F n) :
    Calls Tryz.prog 173 #[tv T fa fc ra rc ba bc, .func (.func 175) #[] #[], .func (.func 176) #[] #[]] w fun o w' => ∃ q us ms rr op vs H, o = .returned (.agg (tP us ms rr op n T.rules.length).toArray) ∧ Nw w.heap.size q us ms rr op n T.rules.length (fV T kA T.rules.length) (eP T kT (opK T kT T.rules.length) T.rules.length) H vs w' ∧ (∀ z : Nat, z < n → (H 0).getD z [] = dR T kA T.rules.length z) ∧ Below w.heap.size w w' :=
 mN (d1 := fun _ => true) (d2 := fun k => !decide (k = 3)) (fun _ _ _ _ => uS) (fun _ _ _ _ => fS) (fun _ e => by cases e) (enters_go Tryz.func175 (by kernel_rfl) (by kernel_rfl)) (enters_go Tryz.func176 (by kernel_rfl) (by kernel_rfl)) h hp
end Go.Proofs.YtmlhcncagdfjfaaGreat.Fa
