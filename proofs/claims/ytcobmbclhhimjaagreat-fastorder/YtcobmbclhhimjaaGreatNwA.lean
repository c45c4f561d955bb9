/- newWaits: fast.isAny. (tools/gen16/nwt.py wrote this.) -/
import Derived.Test.YtcobmbclhhimjaaGreatNwp
namespace Go.Proofs.YtcobmbclhhimjaaGreat.Fa
open Go.RowKit Rg

set_option maxRecDepth 100000 in
set_option maxHeartbeats 12800000 in
theorem newWaits_all {w : World} {T : Th} {F : List Int} {n : Nat} {fa ra ba : Option Addr} {fc rc bc : Nat} (h : TA w.heap.size w T fa fc ra rc ba bc) (hp : Pf T F n) :
    Calls Tryz.prog 65 #[tv T fa fc ra rc ba bc, .func (.func 67) #[] #[], .func (.func 68) #[] #[]] w fun o w' => ∃ q us ms rr op vs H, o = .returned (.agg (wtL us ms rr op n T.rules.length).toArray) ∧ Nw w.heap.size q us ms rr op n T.rules.length (msK T kA T.rules.length) (opZ T kT (opK T kT T.rules.length) T.rules.length) H vs w' ∧ (∀ z : Nat, z < n → (H 0).getD z [] = useK T kA T.rules.length z) ∧ Below w.heap.size w w' := by
  obtain ⟨iL, hiL, zL0, zL1, zL2⟩ := info_parts infoL
  obtain ⟨iB, hiB, zB0, zB1, zB2⟩ := info_parts infoBo
  obtain ⟨iI, hiI, zI0, zI1, zI2⟩ := info_parts infoI
  have hn4 := hp.n4
  have hrl : T.rules.length ≤ 4096 := hp.ok.rl
  have hmL : ∀ W, (Instr.makeSlice 22 (.int .i64 T.lits) (.int .i64 T.lits)).run Tryz.prog W = .ok (sl W.heap.size n) (W.alloc (.cells (Array.replicate n (.slice none 0 0)) 26)) := fun W => by rw [hp.ln]; exact run_make_fix (P := Tryz.prog) Tryz.underlying22 hiL zL0 zL1 rfl n (by rw [zL2]; omega) (by unfold maxLen; omega) W
  have hmI : ∀ W, (Instr.makeSlice 26 (.int .i64 T.lits) (.int .i64 T.lits)).run Tryz.prog W = .ok (sl W.heap.size n) (W.alloc (.cells (Array.replicate n (.int .i64 0)) 3)) := fun W => by rw [hp.ln]; exact run_make_fix (P := Tryz.prog) Tryz.underlying26 hiI zI0 zI1 rfl n (by rw [zI2]; omega) (by unfold maxLen; omega) W
  have hmR : ∀ W, (Instr.makeSlice 26 (.int .i64 T.rules.length) (.int .i64 T.rules.length)).run Tryz.prog W = .ok (sl W.heap.size T.rules.length) (W.alloc (.cells (Array.replicate T.rules.length (.int .i64 0)) 3)) := fun W => run_make_fix (P := Tryz.prog) Tryz.underlying26 hiI zI0 zI1 rfl T.rules.length (by rw [zI2]; omega) (by unfold maxLen; omega) W
  have hmB : ∀ W, (Instr.makeSlice 67 (.int .i64 T.rules.length) (.int .i64 T.rules.length)).run Tryz.prog W = .ok (sl W.heap.size T.rules.length) (W.alloc (.cells (Array.replicate T.rules.length (.bool false)) 4)) := fun W => run_make_fix (P := Tryz.prog) Tryz.underlying67 hiB zB0 zB1 rfl T.rules.length (by rw [zB2]; omega) (by unfold maxLen; omega) W
  have hB1 := below_new w (.cells #[.int .i64 T.lits, .slice fa T.foes.length fc, .slice ra T.rules.length rc, .slice ba T.beats.length bc] 25)
  have hB2 := below_new (w.alloc (.cells #[.int .i64 T.lits, .slice fa T.foes.length fc, .slice ra T.rules.length rc, .slice ba T.beats.length bc] 25)) (.cells #[.slice none 0 0, .slice none 0 0, .slice none 0 0, .slice none 0 0] 71)
  have hB := hB1.trans (hB2.mono hB1.size)
  have hX1 : Fx w.heap.size 25 [.int .i64 T.lits, .slice fa T.foes.length fc, .slice ra T.rules.length rc, .slice ba T.beats.length bc] ((w.alloc (.cells #[.int .i64 T.lits, .slice fa T.foes.length fc, .slice ra T.rules.length rc, .slice ba T.beats.length bc] 25)).alloc (.cells #[.slice none 0 0, .slice none 0 0, .slice none 0 0, .slice none 0 0] 71)) := (hB2.block _ (by simp)).trans (heap_alloc_new w _)
  have hX2 : Fx (w.heap.size + 1) 71 [.slice none 0 0, .slice none 0 0, .slice none 0 0, .slice none 0 0] ((w.alloc (.cells #[.int .i64 T.lits, .slice fa T.foes.length fc, .slice ra T.rules.length rc, .slice ba T.beats.length bc] 25)).alloc (.cells #[.slice none 0 0, .slice none 0 0, .slice none 0 0, .slice none 0 0] 71)) := by
    have := heap_alloc_new (w.alloc (.cells #[.int .i64 T.lits, .slice fa T.foes.length fc, .slice ra T.rules.length rc, .slice ba T.beats.length bc] 25)) (.cells #[.slice none 0 0, .slice none 0 0, .slice none 0 0, .slice none 0 0] 71)
    simpa [Fx] using this
  have HTA := hide (TR.go hB h)
  have HP := hide hp
  have HB := hide hB
  have HX1 := hide hX1
  have HX2 := hide hX2
  clear h hp hB hB1 hB2
  go_enter Tryz.func65, Tryz.ntmps65
  go_upto_region 1 with fail
  clear hX1 hX2
  generalize (w.alloc (.cells #[.int .i64 T.lits, .slice fa T.foes.length fc, .slice ra T.rules.length rc, .slice ba T.beats.length bc] 25)).alloc (.cells #[.slice none 0 0, .slice none 0 0, .slice none 0 0, .slice none 0 0] 71) = W at *
  obtain ⟨bq, hbq⟩ : ∃ bq, w.heap.size = bq := ⟨_, rfl⟩
  have HBQ := hide hbq
  rw [hbq] at HX1 HX2 ⊢
  clear hbq
  have HDr := hide ((Below.refl W.heap.size W).drew)
  obtain ⟨W0, hW0⟩ : ∃ W0, W.drew = W0 := ⟨_, rfl⟩
  have HX1d := hide (HX1.out.keep (HDr.out.block _ HX1.out.lt))
  have HOKD : Hid (okD [some 14, some 15, some 16, some 17, some 18, some 19, some 20, some 21, some 22, some 23, some 24, some 25, some 26, some 27, some 28, some 7, none] [(3, ptr bq)] = true) := hide rfl
  rw [hW0] at HX1d HDr
  have HCL : Hid (∀ X, Below W0.heap.size W0 X → X.cell? ⟨bq, 0, none⟩ = some (.int .i64 T.lits) ∧ X.cell? ⟨bq, 2, none⟩ = some (.slice ra T.rules.length rc)) := hide fun X hX => by
    have hf := HX1d.out.keep (hX.block _ HX1d.out.lt)
    exact ⟨hf.get (i := 0) rfl, hf.get (i := 2) rfl⟩
  refine region_j NoE (Jl 16 [some 14, some 15, some 16, some 17, some 18, some 19, some 20, some 21, some 22, some 23, some 24, some 25, some 26, some 27, some 28, some 7, none] [(3, ptr bq)] (prW T.rules.length ra rc T bq n W0.heap.size) (finW T.rules.length n W0) W0) (by kernel_rfl) (by kernel_rfl) ?_ (steps_j ⟨?_, ?_, ?_, ?_, ?_, ?_, ?_, ?_, ?_, ?_, ?_, ?_, ?_, ?_, ?_, ?_, ?_, trivial⟩) ?_ ?_
  · refine ⟨fun _ => ?_, fun e => by cases e⟩
    show Jg _ _ _ W0 _ _ W.drew
    rw [hW0]
    exact Jg.start.2 fun p hp => by simp at hp; subst hp; rfl
  · intro ρ X L hc hf hL hd hcl hJJ
    have hlast : L 16 = false := not_done (by kernel_rfl) hcl (k := 0) (by simp) hL
    have hJ := hJJ.1 hlast
    obtain ⟨c0, c2⟩ := HCL.out X hJ.low
    have k3 : ρ (.tmp 3) = ptr bq := hJ.base (3, ptr bq) (by simp)
    refine does_value (v := ptr bq) (w' := X) ?_ ⟨fun _ => hJ.put HOKD.out prW_go (i := 0) (d := 14) rfl (Below.refl _ _) (rfl), fun e => by rw [more_off (by decide), hlast] at e; cases e⟩
    clear hd hcl hJ hJJ hL hlast
    go_simp
  · intro ρ X L hc hf hL hd hcl hJJ
    have hlast : L 16 = false := not_done (by kernel_rfl) hcl (k := 1) (by simp) hL
    have hJ := hJJ.1 hlast
    obtain ⟨c0, c2⟩ := HCL.out X hJ.low
    obtain ⟨_, _, _, e1⟩ := hJ.get (i := 0) (d := 14) rfl (hd ⟨0, .data⟩ (by simp) rfl)
    have k14 : ρ (.tmp 14) = ptr bq := e1
    clear e1
    refine does_value (v := .int .i64 T.lits) (w' := X) ?_ ⟨fun _ => hJ.put HOKD.out prW_go (i := 1) (d := 15) rfl (Below.refl _ _) (rfl), fun e => by rw [more_off (by decide), hlast] at e; cases e⟩
    clear hd hcl hJ hJJ hL hlast
    go_simp
  · intro ρ X L hc hf hL hd hcl hJJ
    have hlast : L 16 = false := not_done (by kernel_rfl) hcl (k := 2) (by simp) hL
    have hJ := hJJ.1 hlast
    obtain ⟨c0, c2⟩ := HCL.out X hJ.low
    obtain ⟨_, _, _, e1⟩ := hJ.get (i := 1) (d := 15) rfl (hd ⟨1, .data⟩ (by simp) rfl)
    have k15 : ρ (.tmp 15) = .int .i64 T.lits := e1
    have hmm := hmL X
    clear e1
    refine does_value (v := sl X.heap.size n) (w' := X.alloc (.cells (Array.replicate n (.slice none 0 0)) 26)) ?_ ⟨fun _ => hJ.put HOKD.out prW_go (i := 2) (d := 16) rfl (below_new X _) (⟨X.heap.size, rfl, by unfold Fx; rw [heap_alloc_new]; simp, Nat.le_refl _, by simp, hJ.low.size⟩), fun e => by rw [more_off (by decide), hlast] at e; cases e⟩
    clear hd hcl hJ hJJ hL hlast
    go_simp
  · intro ρ X L hc hf hL hd hcl hJJ
    have hlast : L 16 = false := not_done (by kernel_rfl) hcl (k := 3) (by simp) hL
    have hJ := hJJ.1 hlast
    obtain ⟨c0, c2⟩ := HCL.out X hJ.low
    have k3 : ρ (.tmp 3) = ptr bq := hJ.base (3, ptr bq) (by simp)
    refine does_value (v := .pointer (some ⟨bq, 2, none⟩)) (w' := X) ?_ ⟨fun _ => hJ.put HOKD.out prW_go (i := 3) (d := 17) rfl (Below.refl _ _) (rfl), fun e => by rw [more_off (by decide), hlast] at e; cases e⟩
    clear hd hcl hJ hJJ hL hlast
    go_simp
  · intro ρ X L hc hf hL hd hcl hJJ
    have hlast : L 16 = false := not_done (by kernel_rfl) hcl (k := 4) (by simp) hL
    have hJ := hJJ.1 hlast
    obtain ⟨c0, c2⟩ := HCL.out X hJ.low
    obtain ⟨_, _, _, e1⟩ := hJ.get (i := 3) (d := 17) rfl (hd ⟨3, .data⟩ (by simp) rfl)
    have k17 : ρ (.tmp 17) = .pointer (some ⟨bq, 2, none⟩) := e1
    clear e1
    refine does_value (v := .slice ra T.rules.length rc) (w' := X) ?_ ⟨fun _ => hJ.put HOKD.out prW_go (i := 4) (d := 18) rfl (Below.refl _ _) (rfl), fun e => by rw [more_off (by decide), hlast] at e; cases e⟩
    clear hd hcl hJ hJJ hL hlast
    go_simp
  · intro ρ X L hc hf hL hd hcl hJJ
    have hlast : L 16 = false := not_done (by kernel_rfl) hcl (k := 5) (by simp) hL
    have hJ := hJJ.1 hlast
    obtain ⟨c0, c2⟩ := HCL.out X hJ.low
    obtain ⟨_, _, _, e1⟩ := hJ.get (i := 4) (d := 18) rfl (hd ⟨4, .data⟩ (by simp) rfl)
    have k18 : ρ (.tmp 18) = .slice ra T.rules.length rc := e1
    clear e1
    refine does_value (v := .int .i64 T.rules.length) (w' := X) ?_ ⟨fun _ => hJ.put HOKD.out prW_go (i := 5) (d := 19) rfl (Below.refl _ _) (rfl), fun e => by rw [more_off (by decide), hlast] at e; cases e⟩
    clear hd hcl hJ hJJ hL hlast
    go_simp
  · intro ρ X L hc hf hL hd hcl hJJ
    have hlast : L 16 = false := not_done (by kernel_rfl) hcl (k := 6) (by simp) hL
    have hJ := hJJ.1 hlast
    obtain ⟨c0, c2⟩ := HCL.out X hJ.low
    obtain ⟨_, _, _, e1⟩ := hJ.get (i := 5) (d := 19) rfl (hd ⟨5, .data⟩ (by simp) rfl)
    have k19 : ρ (.tmp 19) = .int .i64 T.rules.length := e1
    have hmm := hmR X
    clear e1
    refine does_value (v := sl X.heap.size T.rules.length) (w' := X.alloc (.cells (Array.replicate T.rules.length (.int .i64 0)) 3)) ?_ ⟨fun _ => hJ.put HOKD.out prW_go (i := 6) (d := 20) rfl (below_new X _) (⟨X.heap.size, rfl, by unfold Fx; rw [heap_alloc_new, rep_rowI], Nat.le_refl _, by simp, hJ.low.size⟩), fun e => by rw [more_off (by decide), hlast] at e; cases e⟩
    clear hd hcl hJ hJJ hL hlast
    go_simp
  · intro ρ X L hc hf hL hd hcl hJJ
    have hlast : L 16 = false := not_done (by kernel_rfl) hcl (k := 7) (by simp) hL
    have hJ := hJJ.1 hlast
    obtain ⟨c0, c2⟩ := HCL.out X hJ.low
    have k3 : ρ (.tmp 3) = ptr bq := hJ.base (3, ptr bq) (by simp)
    refine does_value (v := .pointer (some ⟨bq, 2, none⟩)) (w' := X) ?_ ⟨fun _ => hJ.put HOKD.out prW_go (i := 7) (d := 21) rfl (Below.refl _ _) (rfl), fun e => by rw [more_off (by decide), hlast] at e; cases e⟩
    clear hd hcl hJ hJJ hL hlast
    go_simp
  · intro ρ X L hc hf hL hd hcl hJJ
    have hlast : L 16 = false := not_done (by kernel_rfl) hcl (k := 8) (by simp) hL
    have hJ := hJJ.1 hlast
    obtain ⟨c0, c2⟩ := HCL.out X hJ.low
    obtain ⟨_, _, _, e1⟩ := hJ.get (i := 7) (d := 21) rfl (hd ⟨7, .data⟩ (by simp) rfl)
    have k21 : ρ (.tmp 21) = .pointer (some ⟨bq, 2, none⟩) := e1
    clear e1
    refine does_value (v := .slice ra T.rules.length rc) (w' := X) ?_ ⟨fun _ => hJ.put HOKD.out prW_go (i := 8) (d := 22) rfl (Below.refl _ _) (rfl), fun e => by rw [more_off (by decide), hlast] at e; cases e⟩
    clear hd hcl hJ hJJ hL hlast
    go_simp
  · intro ρ X L hc hf hL hd hcl hJJ
    have hlast : L 16 = false := not_done (by kernel_rfl) hcl (k := 9) (by simp) hL
    have hJ := hJJ.1 hlast
    obtain ⟨c0, c2⟩ := HCL.out X hJ.low
    obtain ⟨_, _, _, e1⟩ := hJ.get (i := 8) (d := 22) rfl (hd ⟨8, .data⟩ (by simp) rfl)
    have k22 : ρ (.tmp 22) = .slice ra T.rules.length rc := e1
    clear e1
    refine does_value (v := .int .i64 T.rules.length) (w' := X) ?_ ⟨fun _ => hJ.put HOKD.out prW_go (i := 9) (d := 23) rfl (Below.refl _ _) (rfl), fun e => by rw [more_off (by decide), hlast] at e; cases e⟩
    clear hd hcl hJ hJJ hL hlast
    go_simp
  · intro ρ X L hc hf hL hd hcl hJJ
    have hlast : L 16 = false := not_done (by kernel_rfl) hcl (k := 10) (by simp) hL
    have hJ := hJJ.1 hlast
    obtain ⟨c0, c2⟩ := HCL.out X hJ.low
    obtain ⟨_, _, _, e1⟩ := hJ.get (i := 9) (d := 23) rfl (hd ⟨9, .data⟩ (by simp) rfl)
    have k23 : ρ (.tmp 23) = .int .i64 T.rules.length := e1
    have hmm := hmB X
    clear e1
    refine does_value (v := sl X.heap.size T.rules.length) (w' := X.alloc (.cells (Array.replicate T.rules.length (.bool false)) 4)) ?_ ⟨fun _ => hJ.put HOKD.out prW_go (i := 10) (d := 24) rfl (below_new X _) (⟨X.heap.size, rfl, by unfold Fx rowB; rw [heap_alloc_new]; simp [List.map_const'], Nat.le_refl _, by simp, hJ.low.size⟩), fun e => by rw [more_off (by decide), hlast] at e; cases e⟩
    clear hd hcl hJ hJJ hL hlast
    go_simp
  · intro ρ X L hc hf hL hd hcl hJJ
    have hlast : L 16 = false := not_done (by kernel_rfl) hcl (k := 11) (by simp) hL
    have hJ := hJJ.1 hlast
    obtain ⟨c0, c2⟩ := HCL.out X hJ.low
    have k3 : ρ (.tmp 3) = ptr bq := hJ.base (3, ptr bq) (by simp)
    refine does_value (v := ptr bq) (w' := X) ?_ ⟨fun _ => hJ.put HOKD.out prW_go (i := 11) (d := 25) rfl (Below.refl _ _) (rfl), fun e => by rw [more_off (by decide), hlast] at e; cases e⟩
    clear hd hcl hJ hJJ hL hlast
    go_simp
  · intro ρ X L hc hf hL hd hcl hJJ
    have hlast : L 16 = false := not_done (by kernel_rfl) hcl (k := 12) (by simp) hL
    have hJ := hJJ.1 hlast
    obtain ⟨c0, c2⟩ := HCL.out X hJ.low
    obtain ⟨_, _, _, e1⟩ := hJ.get (i := 11) (d := 25) rfl (hd ⟨11, .data⟩ (by simp) rfl)
    have k25 : ρ (.tmp 25) = ptr bq := e1
    clear e1
    refine does_value (v := .int .i64 T.lits) (w' := X) ?_ ⟨fun _ => hJ.put HOKD.out prW_go (i := 12) (d := 26) rfl (Below.refl _ _) (rfl), fun e => by rw [more_off (by decide), hlast] at e; cases e⟩
    clear hd hcl hJ hJJ hL hlast
    go_simp
  · intro ρ X L hc hf hL hd hcl hJJ
    have hlast : L 16 = false := not_done (by kernel_rfl) hcl (k := 13) (by simp) hL
    have hJ := hJJ.1 hlast
    obtain ⟨c0, c2⟩ := HCL.out X hJ.low
    obtain ⟨_, _, _, e1⟩ := hJ.get (i := 12) (d := 26) rfl (hd ⟨12, .data⟩ (by simp) rfl)
    have k26 : ρ (.tmp 26) = .int .i64 T.lits := e1
    have hmm := hmI X
    clear e1
    refine does_value (v := sl X.heap.size n) (w' := X.alloc (.cells (Array.replicate n (.int .i64 0)) 3)) ?_ ⟨fun _ => hJ.put HOKD.out prW_go (i := 13) (d := 27) rfl (below_new X _) (⟨X.heap.size, rfl, by unfold Fx; rw [heap_alloc_new, rep_rowI], Nat.le_refl _, by simp, hJ.low.size⟩), fun e => by rw [more_off (by decide), hlast] at e; cases e⟩
    clear hd hcl hJ hJJ hL hlast
    go_simp
  · intro ρ X L hc hf hL hd hcl hJJ
    have hlast : L 16 = false := not_done (by kernel_rfl) hcl (k := 14) (by simp) hL
    have hJ := hJJ.1 hlast
    obtain ⟨c0, c2⟩ := HCL.out X hJ.low
    obtain ⟨lo, hi, hat, hdis⟩ := hJ.at_
    have l2 : L 2 = true := hd ⟨2, .data⟩ (by simp) rfl
    have l6 : L 6 = true := hd ⟨6, .data⟩ (by simp) rfl
    have l10 : L 10 = true := hd ⟨10, .data⟩ (by simp) rfl
    have l13 : L 13 = true := hd ⟨13, .data⟩ (by simp) rfl
    obtain ⟨-, -, -, g0, e3, f3, a3, b3, n3⟩ := hat 2 16 rfl l2
    obtain ⟨-, -, -, g1, e6, f6, a6, b6, n6⟩ := hat 6 20 rfl l6
    obtain ⟨-, -, -, g2, e9, f9, a9, b9, n9⟩ := hat 10 24 rfl l10
    obtain ⟨-, -, -, g3, e12, f12, a12, b12, n12⟩ := hat 13 27 rfl l13
    have d1 := hdis 6 13 20 27 rfl rfl (by decide) l6 l13
    have k16 : ρ (.tmp 16) = sl g0 n := e3
    have k20 : ρ (.tmp 20) = sl g1 T.rules.length := e6
    have k24 : ρ (.tmp 24) = sl g2 T.rules.length := e9
    have k27 : ρ (.tmp 27) = sl g3 n := e12
    refine does_value (v := .agg #[sl g0 n, sl g1 T.rules.length, sl g2 T.rules.length, sl g3 n]) (w' := X) ?_ ⟨fun _ => hJ.put HOKD.out prW_go (i := 14) (d := 28) rfl (Below.refl _ _) (⟨g0, g1, g2, g3, rfl, f3, f6, f9, f12, ⟨n3, n6, n9, n12⟩, by omega⟩), fun e => by rw [more_off (by decide), hlast] at e; cases e⟩
    clear hd hcl hJ hJJ hL hlast hat hdis d1 e3 e6 e9 e12 f3 f6 f9 f12
    go_simp
  · intro ρ X L hc hf hL hd hcl hJJ
    have hlast : L 16 = false := not_done (by kernel_rfl) hcl (k := 15) (by simp) hL
    have hJ := hJJ.1 hlast
    obtain ⟨c0, c2⟩ := HCL.out X hJ.low
    refine does_value (v := ptr X.heap.size) (w' := X.alloc (.cells #[.slice none 0 0, .slice none 0 0, .slice none 0 0, .slice none 0 0] 71)) ?_ ⟨fun _ => hJ.put HOKD.out prW_go (i := 15) (d := 7) rfl (below_new X _) (⟨X.heap.size, [.slice none 0 0, .slice none 0 0, .slice none 0 0, .slice none 0 0], rfl, heap_alloc_new X _, rfl, hJ.low.size⟩), fun e => by rw [more_off (by decide), hlast] at e; cases e⟩
    clear hd hcl hJ hJJ hL hlast
    go_simp
  · intro ρ X L hc hf hL hd hcl hJJ
    have hJ := hJJ.1 hL
    obtain ⟨_, _, _, g0, g1, g2, g3, e28, f0, f1, f2, f3, ⟨m0, m1, m2, m3⟩, d1⟩ := hJ.get (i := 14) (d := 28) rfl (hd ⟨14, .data⟩ (by simp) rfl)
    obtain ⟨_, _, _, q, xs, e7, h0, hxl, hq⟩ := hJ.get (i := 15) (d := 7) rfl (hd ⟨15, .data⟩ (by simp) rfl)
    obtain ⟨t0, t1, t2, t3, rfl⟩ : ∃ t0 t1 t2 t3, xs = [t0, t1, t2, t3] := by
      match xs, hxl with
      | [t0, t1, t2, t3], _ => exact ⟨t0, t1, t2, t3, rfl⟩
    have k28 : ρ (.tmp 28) = .agg #[sl g0 n, sl g1 T.rules.length, sl g2 T.rules.length, sl g3 n] := e28
    have k7 : ρ (.tmp 7) = ptr q := e7
    have y0 := h0.get (i := 0) (v := t0) rfl
    have z0 := h0.frz 0
    have h1 := h0.set 0 (sl g0 n)
    have y1 := h1.get (i := 1) (v := t1) rfl
    have z1 := h1.frz 1
    have h2 := h1.set 1 (sl g1 T.rules.length)
    have y2 := h2.get (i := 2) (v := t2) rfl
    have z2 := h2.frz 2
    have h3 := h2.set 2 (sl g2 T.rules.length)
    have y3 := h3.get (i := 3) (v := t3) rfl
    have z3 := h3.frz 3
    have h4 := h3.set 3 (sl g3 n)
    have kp : ∀ {g t : Nat} {xs : List Value}, Fx g t xs X → t ≠ 71 → Fx g t xs ((((X.setCell ⟨q, 0, none⟩ (sl g0 n)).setCell ⟨q, 1, none⟩ (sl g1 T.rules.length)).setCell ⟨q, 2, none⟩ (sl g2 T.rules.length)).setCell ⟨q, 3, none⟩ (sl g3 n)) := fun hx ht => by
      have hne := fx_ne hx h0 ht
      exact hx.keep (by simp only [other_set hne])
    have HFIN : Hid (finW T.rules.length n W0 (laid (fun s => ρ (.tmp s)) none undef) ((((X.setCell ⟨q, 0, none⟩ (sl g0 n)).setCell ⟨q, 1, none⟩ (sl g1 T.rules.length)).setCell ⟨q, 2, none⟩ (sl g2 T.rules.length)).setCell ⟨q, 3, none⟩ (sl g3 n))) := hide ⟨q, g0, g1, g2, g3, by rw [laid_ne (by simp)]; exact k7, ⟨h4, kp f1 (by decide), kp f2 (by decide), kp f3 (by decide), hm_start (kp f0 (by decide)) m0, ⟨hq, m1, m2, m3⟩, d1, fun i v hv => by rw [List.getElem?_replicate] at hv; split at hv <;> cases hv; exact ⟨fun e => (by cases e), fun e => (by cases e)⟩⟩, ((((hJ.low.setCell (p := ⟨q, 0, none⟩) hq _).setCell (p := ⟨q, 1, none⟩) hq _).setCell (p := ⟨q, 2, none⟩) hq _).setCell (p := ⟨q, 3, none⟩) hq _)⟩
    refine does_skip (w' := ((((X.setCell ⟨q, 0, none⟩ (sl g0 n)).setCell ⟨q, 1, none⟩ (sl g1 T.rules.length)).setCell ⟨q, 2, none⟩ (sl g2 T.rules.length)).setCell ⟨q, 3, none⟩ (sl g3 n))) ?_ ⟨fun e => (by rw [more_at] at e; cases e), fun _ => HFIN.out⟩
    clear hd hcl hJ hJJ hL kp HFIN f0 f1 f2 f3 h1 h2 h3 h4 h0 e28 e7
    go_simp
  · intro c a' w' _ hE
    exact hE.elim
  · rintro ⟨tmm, df⟩ w' hsz hdf ⟨L, hL, hJ⟩ hold
    simp only at hdf hsz
    subst hdf
    obtain ⟨q, us, ms, rr, op, e7, hNx, hBl⟩ := hJ.2 (hL 16 (by decide))
    have e7 : tmm.getD 7 undef = ptr q := e7
    have htm := frame_keep1 14 28 7 (by kernel_rfl) hsz hold
    simp only [zs, Nat.reduceLT, Nat.reduceAdd, true_or, or_true, or_self, false_and, ne_eq, Nat.reduceEqDiff, not_false_eq_true, not_true_eq_false, and_self, and_false, if_true, if_false, e7] at htm
    rw [htm]
    clear htm hJ hL hold hsz e7 hmL hmB hmI hmR HCL HOKD
    generalize tmm.getD 14 undef = x14
    generalize tmm.getD 15 undef = x15
    generalize tmm.getD 16 undef = x16
    generalize tmm.getD 17 undef = x17
    generalize tmm.getD 18 undef = x18
    generalize tmm.getD 19 undef = x19
    generalize tmm.getD 20 undef = x20
    generalize tmm.getD 21 undef = x21
    generalize tmm.getD 22 undef = x22
    generalize tmm.getD 23 undef = x23
    generalize tmm.getD 24 undef = x24
    generalize tmm.getD 25 undef = x25
    generalize tmm.getD 26 undef = x26
    generalize tmm.getD 27 undef = x27
    generalize tmm.getD 28 undef = x28
    have HN1 := hide hNx
    have HB1 : Hid (Below W.heap.size W w') := hide (HDr.out.trans (hBl.mono HDr.out.size))
    have hsz0 : W0.heap.size = W.heap.size := by rw [← hW0]; rfl
    rw [hsz0] at HN1
    clear hNx hBl hsz0 HDr HX1d
    have c2 := (HX1.out.keep (HB1.out.block _ HX1.out.lt)).get (i := 2) rfl
    go_wp2_with fail
    clear c2
    go_loopw [32] (fun x wr => ∃ (k : Nat) (H : Nat → List (List Int)) (vs : Nat → List Value), k ≤ T.rules.length ∧ x = .int .i64 k ∧ Hid (Gu T kA n k 0 H) ∧ Hid (Nw W.heap.size q us ms rr op n T.rules.length (msK T kA k) (opK T kT k) H vs wr) ∧ Hid (Below W.heap.size W wr)) (fun x _ => T.rules.length - (intOf x).toNat)
    case atStart => exact ⟨0, _, _, by omega, rfl, hide Gu.start, HN1, HB1⟩
    case round =>
      clear HN1 HB1
      obtain ⟨k, H, vs, hk, rfl, HG, HN, HBr⟩ := hrel
      by_cases hlt : k < T.rules.length
      · obtain ⟨r, hr⟩ := get_at hlt
        obtain ⟨h0, h1⟩ := HP.out.head r (List.mem_of_getElem? hr)
        obtain ⟨hm, hhm⟩ := Int.eq_ofNat_of_zero_le h0
        have hmn : hm < n := by omega
        have hhd : headOf T k = (hm : Int) := by unfold headOf; rw [Int.toNat_natCast, hr]; exact hhm
        have hKW : kindB T kA k = kA r := by unfold kindB; rw [Int.toNat_natCast, hr]; rfl
        have hKL : kindB T kT k = kT r := by unfold kindB; rw [Int.toNat_natCast, hr]; rfl
        have hBD : bodyM T k = r.body := by unfold bodyM; rw [Int.toNat_natCast, hr]; rfl
        have hR := TR.keep HBr.out.block HTA.out
        obtain ⟨gr, go, bd, bp, rfl, hgr, x0, x1, x2, -, hbl, hbody⟩ := at_R hR.rules hr
        have hb16 : r.body.length ≤ 16 := (HP.out.ok.rule r (List.mem_of_getElem? hr)).2.2.2.2.1
        have HBN : Hid r.body.Nodup := hide (pw_nodup (risesF_in2 (by omega) (HP.out.ok.rule r (List.mem_of_getElem? hr)).2.2.2.2.2).2)
        have HBI : Hid (∀ x ∈ r.body, 0 ≤ x ∧ x < (n : Int)) := hide (HP.out.body r (List.mem_of_getElem? hr))
        have HAT : Hid (∀ X, Below W.heap.size W X → At1 X bd (ints r.body)) := hide fun X hX => by
          have h2 := TR.keep hX.block HTA.out
          obtain ⟨g3, o3, b3, p3, e3, hg3, -, -, x3, -, -, hI3⟩ := at_R h2.rules hr
          cases e3
          have e4 : wr.cell? ⟨gr, go + k * 3 + 2, none⟩ = X.cell? ⟨gr, go + k * 3 + 2, none⟩ := (World.cell?_of_block (HBr.out.block gr hg3)).trans (World.cell?_of_block (hX.block gr hg3)).symm
          rw [x2, x3] at e4
          cases e4
          exact hI3.at1
        rw [hhm] at x1
        have hBq := below_new wr (.cells #[.int .i64 r.kind, .int .i64 hm, .slice bd r.body.length bp] 81)
        have HQ : Hid (Fx wr.heap.size 81 [.int .i64 r.kind, .int .i64 hm, .slice bd r.body.length bp] (wr.alloc (.cells #[.int .i64 r.kind, .int .i64 hm, .slice bd r.body.length bp] 81))) := hide (heap_alloc_new wr _)
        have HNq := hide (HN.out.go hBq)
        have HBq := hide (HBr.out.trans (hBq.mono HBr.out.size))
        have HRr := hide hr
        have HHD := hide hhd
        have HKW := hide hKW
        have HKL := hide hKL
        have HBD := hide hBD
        have HL := hide hlt
        clear hr h0 h1 hhm hR hBq hbody HN HBr hgr hhd hKW hKL hBD
        go_upto_region 5 with fail
        clear x0 x1 x2
        generalize wr.alloc (.cells #[.int .i64 r.kind, .int .i64 hm, .slice bd r.body.length bp] 81) = wq at *
        obtain ⟨qr, hqr⟩ : ∃ qr, wr.heap.size = qr := ⟨_, rfl⟩
        rw [hqr] at HQ ⊢
        clear hqr
        have q0 := HQ.out.get (i := 0) rfl
        have q1 := HQ.out.get (i := 1) rfl
        have q2 := HQ.out.get (i := 2) rfl
        have CW := hide (isAny_any (w := wq) (k := r.kind) (h := (hm : Int)) (v := .slice bd r.body.length bp))
        have HPW : Hid (kA r = true) := hide rfl
        have HMS : Hid (msK T kA (k + 1) = upd (msK T kA k) k (r.body.length : Nat)) := hide (by rw [msK_succ, HKW.out, HBD.out, if_pos HPW.out])
        go_upto_region 6 with (go_at_call 67; refine CW.out.mono ?_; rintro _ w3 ⟨rfl, hb⟩; have HB3 := hide hb; clear hb)
        have HN3 := hide (HNq.out.go HB3.out)
        have HQ3 := hide (HQ.out.keep (HB3.out.block _ HQ.out.lt))
        have HB4 := hide (HBq.out.trans (HB3.out.mono HBq.out.size))
        clear HNq HQ HBq HB3 q0 q1 q2 CW
        have s1 := HN3.out.bx.get (i := 1) rfl
        have q2 := HQ3.out.get (i := 2) rfl
        have cm := HN3.out.fm.get (rowI_at HL.out)
        have zm := HN3.out.fm.frz k
        have HN4 := hide (HN3.out.setM HL.out (r.body.length : Nat))
        have HQ4 := hide (HQ3.out.keep (w' := w3.setCell ⟨ms, k, none⟩ (.int .i64 (r.body.length : Nat))) (other_set (fx_ne HQ3.out HN3.out.fm (by decide))))
        have HB5 := hide (HB4.out.setCell (p := ⟨ms, k, none⟩) HN3.out.lo.2.1 (.int .i64 (r.body.length : Nat)))
        have q2' := HQ4.out.get (i := 2) rfl
        obtain ⟨fm2, hfm2⟩ : ∃ fm2, upd (msK T kA k) k (r.body.length : Nat) = fm2 := ⟨_, rfl⟩
        rw [hfm2] at HN4 HMS
        clear HN3 HQ3 HB4 hfm2
        go_wp2_with fail
        clear s1 q2 cm zm q2'
        go_loopw [51] (fun x wr => ∃ (j : Nat) (H : Nat → List (List Int)) (vs : Nat → List Value), j ≤ r.body.length ∧ x = .int .i64 j ∧ Hid (Gu T kA n k j H) ∧ Hid (Nw W.heap.size q us ms rr op n T.rules.length fm2 (opK T kT k) H vs wr) ∧ Hid (Below W.heap.size W wr) ∧ Hid (Fx qr 81 [.int .i64 r.kind, .int .i64 hm, .slice bd r.body.length bp] wr)) (fun x _ => r.body.length - (intOf x).toNat)
        case atStart => exact ⟨0, _, _, by omega, rfl, HG, HN4, HB5, HQ4⟩
        case round =>
          clear HG HN4 HB5 HQ4
          rename World => wr3
          obtain ⟨j, H, vs, hj, rfl, HG, HN, HBq, HQ⟩ := hrel
          by_cases hjl : j < r.body.length
          · obtain ⟨x0, hx⟩ := get_at hjl
            obtain ⟨y0, y1⟩ := HBI.out x0 (List.mem_of_getElem? hx)
            obtain ⟨x, rfl⟩ := Int.eq_ofNat_of_zero_le y0
            have hidx : x < n := by omega
            obtain ⟨gx, ox, rfl, cx⟩ := (HAT.out wr3 HBq.out).get hx
            have HXx := hide hx
            have HLEN : Hid (∀ (c i : Nat) (l : List Int), c < 1 → (H c)[i]? = some l → l.length ≤ 4096) := hide fun c i l hc hl => HG.out.len (by have := HL.out; omega) (z := i) (by rw [← (show c = 0 by omega)]; exact hl)
            clear hx y0 y1
            go_upto_region 10 with fail
            have hdr0 := (Below.refl wr3.heap.size wr3).drew
            have HNd0 := hide (HN.out.go hdr0)
            have HQd0 := hide (HQ.out.keep (hdr0.block _ HQ.out.lt))
            have HBd0 := hide (HBq.out.trans (hdr0.mono HBq.out.size))
            obtain ⟨wd, hwd⟩ : ∃ wd, wr3.drew = wd := ⟨_, rfl⟩
            rw [hwd] at HNd0 HQd0 HBd0
            obtain ⟨l0, la0, lc0, hm0, hv0, cm0, om0⟩ := HNd0.out.h3.at (c := 0) (by omega) (show x < n from hidx)
            have cm0 : wd.cell? ⟨us, x, none⟩ = some (.slice la0 l0.length lc0) := cm0
            have hml0 : l0.length ≤ 4096 := HLEN.out 0 _ _ (by omega) hm0
            have hA0 := below_new wd (.cells #[.int .i64 k] 3)
            have hbs0 : W.heap.size ≤ wd.heap.size := HBd0.out.size
            obtain ⟨gg0, cap0, w2, hr2, hown0, hgrow0, hat0, hlt0⟩ := run_append_lies (P := Tryz.prog) (wd.alloc (.cells #[.int .i64 k] 3)) 26 26 W.heap.size 3 iI _ 1 8 Tryz.underlying26 hiI zI0 zI1 zI2 rfl (by decide) (.slice la0 l0.length lc0) l0.length (ints l0) (owns_keep om0 fun g hg => hA0.block g (owns_lt om0 hg)) ⟨wd.heap.size, 0, none⟩ 1 1 [.int .i64 k] rfl (World.news_of_block (cs := [.int .i64 k].toArray) (t := 3) (fr := (0, 0)) (heap_alloc_new wd (.cells #[.int .i64 k] 3))) (by simp [Value.oneCell']) (by decide) (by unfold maxLen; omega) (by omega) (by simp; omega) (wd.heap.size + 1) (by simp)
            have HR2 := hide hr2
            have hold0 : ∀ k, k < wd.heap.size → Value.ownBlock (.slice la0 l0.length lc0) ≠ some k → w2.heap[k]? = wd.heap[k]? := fun k hk hn => (hgrow0.block k (by simp; omega) fun e => hn e.symm).trans (hA0.block k hk)
            have HNE0 := own_fx om0 (HNd0.out.h3.fx 0 (by omega)) (by decide)
            have HNQ0 := own_fx om0 HQd0.out (by decide)
            have HNB0 := own_fx om0 HNd0.out.bx (by decide)
            obtain ⟨w3, hw3⟩ : ∃ w3, w2.setCell ⟨us, x, none⟩ (.slice (some ⟨gg0, 0, none⟩) (l0.length + 1) cap0) = w3 := ⟨_, rfl⟩
            have HW3 := hide hw3
            have HN0a : Hid (Nw W.heap.size q us ms rr op n T.rules.length fm2 (opK T kT k) (up H 0 ((H 0).set x (l0 ++ [(k : Int)]))) (up vs 0 ((vs 0).set x (.slice (some ⟨gg0, 0, none⟩) (l0.length + 1) cap0))) w3) := hide (by rw [← hw3]; exact HNd0.out.add (c := 0) (by omega) hm0 hv0 hown0 hold0 (by rcases hat0 with h | h; exact .inl h; exact .inr (by omega)))
            have HQ3 : Hid (Fx qr 81 [.int .i64 r.kind, .int .i64 hm, .slice (some ⟨gx, ox, none⟩) r.body.length bp] w3) := hide (by rw [← hw3]; exact (HQd0.out.keep (hold0 _ HQd0.out.lt HNQ0)).keep (other_set (fx_ne HQd0.out (HNd0.out.h3.fx 0 (by omega)) (by decide))))
            have HB3 : Hid (Below W.heap.size W w3) := hide (by rw [← hw3]; exact (HBd0.out.trans (show Below W.heap.size wd w2 from (hA0.mono hbs0).trans ⟨hgrow0.os, hgrow0.tape, hgrow0.output, hgrow0.size, fun k hk => hgrow0.block k (by simp; omega) fun e => by have := (om0.lt k e.symm).1; omega⟩)).setCell (p := ⟨us, x, none⟩) (HNd0.out.h3.lo 0 (by omega)) (.slice (some ⟨gg0, 0, none⟩) (l0.length + 1) cap0))
            have kb0 : ∀ {a : Addr} {v : Value}, wd.cell? a = some v → Value.ownBlock (.slice la0 l0.length lc0) ≠ some a.block → ∀ X, X = wd ∨ X = wd.alloc (.cells #[.int .i64 k] 3) ∨ X = w2 → X.cell? a = some v := fun ha hn X hX => by
              have hlt := World.block_lt_of_cell? wd _ ha
              rcases hX with rfl | rfl | rfl
              · exact ha
              · exact cell_on ha hA0
              · exact (World.cell?_of_block (hold0 _ hlt hn)).trans ha
            have LH := hide (kb0 (HNd0.out.bx.get (i := 0) (v := sl us n) rfl) HNB0)
            have LQ := hide (kb0 (HQd0.out.get (i := 1) rfl) HNQ0)
            have LR := hide (kb0 cm0 HNE0)
            have q1 : w2.cell? ⟨us, x, none⟩ = some (.slice la0 l0.length lc0) := LR.out w2 (.inr (.inr rfl))
            have q2 : w2.frozen? ⟨us, x, none⟩ = false := ((HNd0.out.h3.fx 0 (by omega)).keep (hold0 _ (HNd0.out.h3.fx 0 (by omega)).lt HNE0)).frz x
            have HOK : Hid (okD ([some (55, .pointer (some ⟨q, 0, none⟩)), some (56, sl us n), some (57, .int .i64 x), some (58, .pointer (some ⟨q, 0, none⟩)), some (59, sl us n), some (60, .int .i64 x), some (61, .pointer (some ⟨us, x, none⟩)), some (62, .slice la0 l0.length lc0), some (63, .int .i64 k), some (64, .slice (some ⟨wd.heap.size, 0, none⟩) 1 1), some (65, .slice (some ⟨gg0, 0, none⟩) (l0.length + 1) cap0), some (66, .pointer (some ⟨us, x, none⟩)), none].map fun p : Option (Nat × Value) => p.map Prod.fst) [(7, ptr q), (11, .int .i64 x), (8, .int .i64 k)] = true) := hide rfl
            clear HN HQ HBq cm0 hgrow0 hown0 hr2 HNQ0 HNB0 HNE0 hv0 hat0 hlt0 kb0 hold0 hA0 om0 HNd0 HQd0 HBd0 hbs0 hdr0 hw3
            refine region_j NoE (Jt [some (55, .pointer (some ⟨q, 0, none⟩)), some (56, sl us n), some (57, .int .i64 x), some (58, .pointer (some ⟨q, 0, none⟩)), some (59, sl us n), some (60, .int .i64 x), some (61, .pointer (some ⟨us, x, none⟩)), some (62, .slice la0 l0.length lc0), some (63, .int .i64 k), some (64, .slice (some ⟨wd.heap.size, 0, none⟩) 1 1), some (65, .slice (some ⟨gg0, 0, none⟩) (l0.length + 1) cap0), some (66, .pointer (some ⟨us, x, none⟩)), none] [(7, ptr q), (11, .int .i64 x), (8, .int .i64 k)] (ws3 9 10 12 wd (wd.alloc (.cells #[.int .i64 k] 3)) w2 w3)) (by kernel_rfl) (by kernel_rfl) ?_ (steps_j ⟨?_, ?_, ?_, ?_, ?_, ?_, ?_, ?_, ?_, ?_, ?_, ?_, ?_, trivial⟩) ?_ ?_
            · exact ⟨fun p hp => by simp at hp; rcases hp with rfl | rfl | rfl <;> rfl, fun i d v _ hL => (by cases hL), hwd⟩
            · intro ρ X L hc hf hL hd hcl hJ
              have k7 : ρ (.tmp 7) = ptr q := hJ.base (7, ptr q) (by simp)
              refine does_value (v := .pointer (some ⟨q, 0, none⟩)) (w' := X) ?_ (hJ.put HOK.out rfl (by rw [ws3_off (by decide) (by decide) (by decide)]; exact hJ.wd))
              clear hd hcl hJ hL
              go_simp
            · intro ρ X L hc hf hL hd hcl hJ
              have k55 : ρ (.tmp 55) = .pointer (some ⟨q, 0, none⟩) := hJ.vals 0 55 (.pointer (some ⟨q, 0, none⟩)) rfl (hd ⟨0, .data⟩ (by simp) rfl)
              have hst : L 12 = false := not_done (by kernel_rfl) hcl (k := 1) (by simp) hL
              have hx := LH.out X (ws3_in hJ.wd hst)
              clear hst
              refine does_value (v := sl us n) (w' := X) ?_ (hJ.put HOK.out rfl (by rw [ws3_off (by decide) (by decide) (by decide)]; exact hJ.wd))
              clear hd hcl hJ hL
              go_simp
            · intro ρ X L hc hf hL hd hcl hJ
              have k11 : ρ (.tmp 11) = .int .i64 x := hJ.base (11, .int .i64 x) (by simp)
              refine does_value (v := .int .i64 x) (w' := X) ?_ (hJ.put HOK.out rfl (by rw [ws3_off (by decide) (by decide) (by decide)]; exact hJ.wd))
              clear hd hcl hJ hL
              go_simp
            · intro ρ X L hc hf hL hd hcl hJ
              have k7 : ρ (.tmp 7) = ptr q := hJ.base (7, ptr q) (by simp)
              refine does_value (v := .pointer (some ⟨q, 0, none⟩)) (w' := X) ?_ (hJ.put HOK.out rfl (by rw [ws3_off (by decide) (by decide) (by decide)]; exact hJ.wd))
              clear hd hcl hJ hL
              go_simp
            · intro ρ X L hc hf hL hd hcl hJ
              have k58 : ρ (.tmp 58) = .pointer (some ⟨q, 0, none⟩) := hJ.vals 3 58 (.pointer (some ⟨q, 0, none⟩)) rfl (hd ⟨3, .data⟩ (by simp) rfl)
              have hst : L 12 = false := not_done (by kernel_rfl) hcl (k := 4) (by simp) hL
              have hx := LH.out X (ws3_in hJ.wd hst)
              clear hst
              refine does_value (v := sl us n) (w' := X) ?_ (hJ.put HOK.out rfl (by rw [ws3_off (by decide) (by decide) (by decide)]; exact hJ.wd))
              clear hd hcl hJ hL
              go_simp
            · intro ρ X L hc hf hL hd hcl hJ
              have k11 : ρ (.tmp 11) = .int .i64 x := hJ.base (11, .int .i64 x) (by simp)
              refine does_value (v := .int .i64 x) (w' := X) ?_ (hJ.put HOK.out rfl (by rw [ws3_off (by decide) (by decide) (by decide)]; exact hJ.wd))
              clear hd hcl hJ hL
              go_simp
            · intro ρ X L hc hf hL hd hcl hJ
              have k59 : ρ (.tmp 59) = sl us n := hJ.vals 4 59 (sl us n) rfl (hd ⟨4, .data⟩ (by simp) rfl)
              have k60 : ρ (.tmp 60) = .int .i64 x := hJ.vals 5 60 (.int .i64 x) rfl (hd ⟨5, .data⟩ (by simp) rfl)
              refine does_value (v := .pointer (some ⟨us, x, none⟩)) (w' := X) ?_ (hJ.put HOK.out rfl (by rw [ws3_off (by decide) (by decide) (by decide)]; exact hJ.wd))
              clear hd hcl hJ hL
              go_simp
            · intro ρ X L hc hf hL hd hcl hJ
              have k61 : ρ (.tmp 61) = .pointer (some ⟨us, x, none⟩) := hJ.vals 6 61 (.pointer (some ⟨us, x, none⟩)) rfl (hd ⟨6, .data⟩ (by simp) rfl)
              have hst : L 12 = false := not_done (by kernel_rfl) hcl (k := 7) (by simp) hL
              have hx := LR.out X (ws3_in hJ.wd hst)
              clear hst
              refine does_value (v := .slice la0 l0.length lc0) (w' := X) ?_ (hJ.put HOK.out rfl (by rw [ws3_off (by decide) (by decide) (by decide)]; exact hJ.wd))
              clear hd hcl hJ hL
              go_simp
            · intro ρ X L hc hf hL hd hcl hJ
              have k8 : ρ (.tmp 8) = .int .i64 k := hJ.base (8, .int .i64 k) (by simp)
              refine does_value (v := .int .i64 k) (w' := X) ?_ (hJ.put HOK.out rfl (by rw [ws3_off (by decide) (by decide) (by decide)]; exact hJ.wd))
              clear hd hcl hJ hL
              go_simp
            · intro ρ X L hc hf hL hd hcl hJ
              have k63 : ρ (.tmp 63) = .int .i64 k := hJ.vals 8 63 (.int .i64 k) rfl (hd ⟨8, .data⟩ (by simp) rfl)
              have hap : L 10 = false := by cases e : L 10 with | false => rfl | true => (have := hcl 10 _ rfl e ⟨9, .data⟩ (by simp) rfl; rw [show (⟨9, .data⟩ : Edge).on = 9 from rfl] at this; rw [hL] at this; cases this)
              have hst : L 12 = false := not_done (by kernel_rfl) hcl (k := 9) (by simp) hL
              have hX := hJ.wd.trans (ws3_0 hL hap hst)
              refine does_value (v := .slice (some ⟨wd.heap.size, 0, none⟩) 1 1) (w' := wd.alloc (.cells #[.int .i64 k] 3)) ?_ (hJ.put HOK.out rfl ((ws3_1 more_at (by rw [more_off (by decide)]; exact hap) (by rw [more_off (by decide)]; exact hst)).symm))
              subst hX
              clear hd hcl hJ hL hap hst
              go_simp
            · intro ρ X L hc hf hL hd hcl hJ
              have k62 : ρ (.tmp 62) = .slice la0 l0.length lc0 := hJ.vals 7 62 (.slice la0 l0.length lc0) rfl (hd ⟨7, .data⟩ (by simp) rfl)
              have k64 : ρ (.tmp 64) = .slice (some ⟨wd.heap.size, 0, none⟩) 1 1 := hJ.vals 9 64 (.slice (some ⟨wd.heap.size, 0, none⟩) 1 1) rfl (hd ⟨9, .data⟩ (by simp) rfl)
              have hbs : L 9 = true := hd ⟨9, .data⟩ (by simp) rfl
              have hst : L 12 = false := not_done (by kernel_rfl) hcl (k := 10) (by simp) hL
              have hX := hJ.wd.trans (ws3_1 hbs hL hst)
              refine does_app _ _ 26 rfl k62 k64 (u := .slice (some ⟨gg0, 0, none⟩) (l0.length + 1) cap0) (w' := w2) (by rw [hX]; exact HR2.out) (hJ.put HOK.out rfl ((ws3_2 more_at (by rw [more_off (by decide)]; exact hst)).symm))
            · intro ρ X L hc hf hL hd hcl hJ
              have k56 : ρ (.tmp 56) = sl us n := hJ.vals 1 56 (sl us n) rfl (hd ⟨1, .data⟩ (by simp) rfl)
              have k57 : ρ (.tmp 57) = .int .i64 x := hJ.vals 2 57 (.int .i64 x) rfl (hd ⟨2, .data⟩ (by simp) rfl)
              refine does_value (v := .pointer (some ⟨us, x, none⟩)) (w' := X) ?_ (hJ.put HOK.out rfl (by rw [ws3_off (by decide) (by decide) (by decide)]; exact hJ.wd))
              clear hd hcl hJ hL
              go_simp
            · intro ρ X L hc hf hL hd hcl hJ
              have k66 : ρ (.tmp 66) = .pointer (some ⟨us, x, none⟩) := hJ.vals 11 66 (.pointer (some ⟨us, x, none⟩)) rfl (hd ⟨11, .data⟩ (by simp) rfl)
              have k65 : ρ (.tmp 65) = .slice (some ⟨gg0, 0, none⟩) (l0.length + 1) cap0 := hJ.vals 10 65 (.slice (some ⟨gg0, 0, none⟩) (l0.length + 1) cap0) rfl (hd ⟨10, .data⟩ (by simp) rfl)
              have hap : L 10 = true := hd ⟨10, .data⟩ (by simp) rfl
              have hX := hJ.wd.trans (ws3_2 hap hL)
              refine does_skip (w' := w3) ?_ (hJ.last rfl ((ws3_3 more_at).symm))
              subst hX
              clear hd hcl hJ hL hap
              rw [← HW3.out]
              go_simp
            · intro c a' w' _ hE
              exact hE.elim
            · rintro ⟨tmm, df⟩ w' hsz hdf ⟨L, hL, hJ⟩ hold
              simp only at hdf hsz
              subst hdf
              have hw4 : w3 = w' := (hJ.wd.trans (ws3_3 (hL 12 (by decide)))).symm
              subst hw4
              have htm := frame_keep 55 66 (by kernel_rfl) hsz hold
              simp only [zr, Nat.reduceLT, Nat.reduceAdd, true_or, or_true, or_self, if_true, if_false] at htm
              rw [htm]
              clear htm hJ hL hold hsz HOK HR2 HW3 LH LQ LR q1 q2 hwd
              generalize tmm.getD 55 undef = x55
              generalize tmm.getD 56 undef = x56
              generalize tmm.getD 57 undef = x57
              generalize tmm.getD 58 undef = x58
              generalize tmm.getD 59 undef = x59
              generalize tmm.getD 60 undef = x60
              generalize tmm.getD 61 undef = x61
              generalize tmm.getD 62 undef = x62
              generalize tmm.getD 63 undef = x63
              generalize tmm.getD 64 undef = x64
              generalize tmm.getD 65 undef = x65
              generalize tmm.getD 66 undef = x66
              have HG2 := hide (HG.out.add HRr.out HBN.out HXx.out hidx hm0)
              go_wp2_with fail
              go_roundw
              case rel => exact ⟨j + 1, _, _, by omega, by go_num, HG2, HN0a, HB3, HQ3⟩
              case measure => simp [intOf]; omega
          · have HG2 := hide (HG.out.next HRr.out HPW.out (by omega))
            have q0 := HQ.out.get (i := 0) rfl
            have q1 := HQ.out.get (i := 1) rfl
            have q2 := HQ.out.get (i := 2) rfl
            have CL := hide (isTeam_any (w := wr3) (k := r.kind) (h := (hm : Int)) (v := .slice bd r.body.length bp))
            cases htk : decide (r.kind = 3) with
            | true =>
              have HPL : Hid (kT r = false) := hide (by unfold kT; rw [htk]; rfl)
              rw [htk] at CL
              clear htk
              have HOP : Hid (opK T kT (k + 1) = opK T kT k) := hide (by rw [opK_succ, HKL.out, if_neg (by rw [HPL.out]; decide)])
              go_wp2_with (go_at_call 68; refine CL.out.mono ?_; rintro _ w5 ⟨rfl, hb⟩; have HB6 := hide hb; clear hb)
              go_roundw
              case rel => exact ⟨k + 1, _, _, by have := HL.out; omega, by go_num, HG2, hide (by rw [HMS.out, HOP.out]; exact HN.out.go HB6.out), hide (HBq.out.trans (HB6.out.mono HBq.out.size))⟩
              case measure => have := HL.out; simp [intOf]; omega
            | false =>
              have HPL : Hid (kT r = true) := hide (by unfold kT; rw [htk]; rfl)
              rw [htk] at CL
              clear htk
              have HOP : Hid (opK T kT (k + 1) = upd (opK T kT k) hm (inc (opK T kT k hm))) := hide (by rw [opK_succ, HKL.out, if_pos HPL.out, HHD.out])
              go_upto_region 13 with (go_at_call 68; refine CL.out.mono ?_; rintro _ w5 ⟨rfl, hb⟩; have HB6 := hide hb; clear hb)
              have HN6 := hide (HN.out.go HB6.out)
              have HQ6 := hide (HQ.out.keep (HB6.out.block _ HQ.out.lt))
              have HB7 := hide (HBq.out.trans (HB6.out.mono HBq.out.size))
              clear HN HQ HBq HB6 q0 q1 q2 CL
              have s3 := HN6.out.bx.get (i := 3) rfl
              have q1 := HQ6.out.get (i := 1) rfl
              have co := HN6.out.fo.get (rowI_at hmn)
              have zo := HN6.out.fo.frz hm
              obtain ⟨v1, hv1⟩ : ∃ v1, IntKind.i64.wrap (opK T kT k hm + 1) = v1 := ⟨_, rfl⟩
              have HV : Hid (inc (opK T kT k hm) = v1) := hide hv1
              have HN7 := hide (HN6.out.setO hmn v1)
              have HB8 := hide (HB7.out.setCell (p := ⟨op, hm, none⟩) HN6.out.lo.2.2.2 (.int .i64 v1))
              generalize opK T kT k hm = xo at co hv1
              clear HN6 HQ6 HB7
              go_wp2_with fail
              go_roundw
              case rel => exact ⟨k + 1, _, _, by have := HL.out; omega, by go_num, HG2, hide (by rw [HMS.out, HOP.out, HV.out]; exact HN7.out), HB8⟩
              case measure => have := HL.out; simp [intOf]; omega
      · have hkn : k = T.rules.length := by omega
        have HN1 : Hid (Nw W.heap.size q us ms rr op n T.rules.length (msK T kA T.rules.length) (opZ T kT (opK T kT T.rules.length) 0) H vs wr) := hide (by have := HN.out; rw [hkn] at this; exact this)
        have HG1 : Hid (Gu T kA n T.rules.length 0 H) := hide (by have := HG.out; rw [hkn] at this; exact this)
        have HB1 := hide HBr.out
        clear HN HG HBr hkn
        have c2 := (HX1.out.keep (HB1.out.block _ HX1.out.lt)).get (i := 2) rfl
        go_wp2_with fail
        clear c2
        go_loopw [83] (fun x wr => ∃ k : Nat, k ≤ T.rules.length ∧ x = .int .i64 k ∧ Hid (Nw W.heap.size q us ms rr op n T.rules.length (msK T kA T.rules.length) (opZ T kT (opK T kT T.rules.length) k) H vs wr) ∧ Hid (Below W.heap.size W wr)) (fun x _ => T.rules.length - (intOf x).toNat)
        case atStart => exact ⟨0, by omega, rfl, HN1, HB1⟩
        case round =>
          clear HN1 HB1
          rename World => wr5
          obtain ⟨k, hk, rfl, HN, HBr⟩ := hrel
          by_cases hlt : k < T.rules.length
          · obtain ⟨r, hr⟩ := get_at hlt
            obtain ⟨h0, h1⟩ := HP.out.head r (List.mem_of_getElem? hr)
            obtain ⟨hm, hhm⟩ := Int.eq_ofNat_of_zero_le h0
            have hmn : hm < n := by omega
            have hhd : headOf T k = (hm : Int) := by unfold headOf; rw [Int.toNat_natCast, hr]; exact hhm
            have hKL : kindB T kT k = kT r := by unfold kindB; rw [Int.toNat_natCast, hr]; rfl
            have hBD : bodyM T k = r.body := by unfold bodyM; rw [Int.toNat_natCast, hr]; rfl
            have hR := TR.keep HBr.out.block HTA.out
            obtain ⟨gr, go, bd, bp, rfl, hgr, x0, x1, x2, -, hbl, hbody⟩ := at_R hR.rules hr
            rw [hhm] at x1
            have hBq := below_new wr5 (.cells #[.int .i64 r.kind, .int .i64 hm, .slice bd r.body.length bp] 81)
            have HQ : Hid (Fx wr5.heap.size 81 [.int .i64 r.kind, .int .i64 hm, .slice bd r.body.length bp] (wr5.alloc (.cells #[.int .i64 r.kind, .int .i64 hm, .slice bd r.body.length bp] 81))) := hide (heap_alloc_new wr5 _)
            have HNq := hide (HN.out.go hBq)
            have HBq := hide (HBr.out.trans (hBq.mono HBr.out.size))
            have HHD := hide hhd
            have HKL := hide hKL
            have HBD := hide hBD
            have HL := hide hlt
            clear hr h0 h1 hhm hR hBq hbody HN HBr hgr hhd hKL hBD
            go_upto_region 18 with fail
            clear x0 x1 x2
            generalize wr5.alloc (.cells #[.int .i64 r.kind, .int .i64 hm, .slice bd r.body.length bp] 81) = wq at *
            obtain ⟨qr, hqr⟩ : ∃ qr, wr5.heap.size = qr := ⟨_, rfl⟩
            rw [hqr] at HQ ⊢
            clear hqr
            have q0 := HQ.out.get (i := 0) rfl
            have q1 := HQ.out.get (i := 1) rfl
            have q2 := HQ.out.get (i := 2) rfl
            have CL := hide (isTeam_any (w := wq) (k := r.kind) (h := (hm : Int)) (v := .slice bd r.body.length bp))
            cases htk : decide (r.kind = 3) with
            | true =>
              have HPL : Hid (kT r = false) := hide (by unfold kT; rw [htk]; rfl)
              have HOP : Hid (opZ T kT (opK T kT T.rules.length) (k + 1) = opZ T kT (opK T kT T.rules.length) k) := hide (by rw [opZ_succ, HKL.out, HPL.out]; rfl)
              rw [htk] at CL
              clear htk
              go_wp2_with (go_at_call 68; refine CL.out.mono ?_; rintro _ w5 ⟨rfl, hb⟩; have HB6 := hide hb; clear hb)
              go_roundw
              case rel => exact ⟨k + 1, by have := HL.out; omega, by go_num, hide (by rw [HOP.out]; exact HNq.out.go HB6.out), hide (HBq.out.trans (HB6.out.mono HBq.out.size))⟩
              case measure => have := HL.out; simp [intOf]; omega
            | false =>
              have HPL : Hid (kT r = true) := hide (by unfold kT; rw [htk]; rfl)
              rw [htk] at CL
              clear htk
              by_cases he : r.body.length = 0
              · have hem : r.body.isEmpty = true := by rw [List.isEmpty_iff]; exact List.eq_nil_of_length_eq_zero he
                have HOP : Hid (opZ T kT (opK T kT T.rules.length) (k + 1) = upd (opZ T kT (opK T kT T.rules.length) k) hm 0) := hide (by rw [opZ_succ, HKL.out, HPL.out, HBD.out, hem, HHD.out]; rfl)
                have he2 : ((r.body.length : Int) == 0) = true := by simpa using he
                have HC6 : Hid (∀ X, Below wq.heap.size wq X → X.cell? ⟨qr, 1, none⟩ = some (.int .i64 hm) ∧ X.cell? ⟨qr, 2, none⟩ = some (.slice bd r.body.length bp) ∧ X.cell? ⟨q, 3, none⟩ = some (sl op n) ∧ X.cell? ⟨op, hm, none⟩ = some (.int .i64 (opZ T kT (opK T kT T.rules.length) k hm)) ∧ X.frozen? ⟨op, hm, none⟩ = false) := hide fun X hX => by
                  have a := HQ.out.keep (hX.block _ HQ.out.lt)
                  have b := HNq.out.go hX
                  exact ⟨a.get (i := 1) rfl, a.get (i := 2) rfl, b.bx.get (i := 3) rfl, b.fo.get (rowI_at hmn), b.fo.frz hm⟩
                clear hem
                rw [he] at *
                go_wp2_with (go_at_call 68; refine CL.out.mono ?_; rintro _ w5 ⟨rfl, hb⟩; have HB6 := hide hb; obtain ⟨k1, k2, k3, k4, k5⟩ := HC6.out w5 hb; clear hb)
                go_roundw
                case rel => exact ⟨k + 1, by have := HL.out; omega, by go_num, hide (by rw [HOP.out]; exact (HNq.out.go HB6.out).setO hmn 0), hide ((HBq.out.trans (HB6.out.mono HBq.out.size)).setCell (p := ⟨op, hm, none⟩) HNq.out.lo.2.2.2 (.int .i64 0))⟩
                case measure => have := HL.out; simp [intOf]; omega
              · have hem : r.body.isEmpty = false := by cases hb : r.body with
                  | nil => rw [hb] at he; simp at he
                  | cons _ _ => rfl
                have HOP : Hid (opZ T kT (opK T kT T.rules.length) (k + 1) = opZ T kT (opK T kT T.rules.length) k) := hide (by rw [opZ_succ, HKL.out, HPL.out, HBD.out, hem]; rfl)
                have he2 : ((r.body.length : Int) == 0) = false := by simpa using he
                have he3 : (r.body.length == 0) = false := by simpa using he
                have HC6 : Hid (∀ X, Below wq.heap.size wq X → X.cell? ⟨qr, 2, none⟩ = some (.slice bd r.body.length bp)) := hide fun X hX => (HQ.out.keep (hX.block _ HQ.out.lt)).get (i := 2) rfl
                obtain ⟨bl, hbl2⟩ : ∃ bl, r.body.length = bl := ⟨_, rfl⟩
                rw [hbl2] at HC6 he he2 he3 CL q2 hbl
                clear hem
                go_wp2_with (go_at_call 68; refine CL.out.mono ?_; rintro _ w5 ⟨rfl, hb⟩; have HB6 := hide hb; have k2 := HC6.out w5 hb; clear hb)
                go_roundw
                case rel => exact ⟨k + 1, by have := HL.out; omega, by go_num, hide (by rw [HOP.out]; exact HNq.out.go HB6.out), hide (HBq.out.trans (HB6.out.mono HBq.out.size))⟩
                case measure => have := HL.out; simp [intOf]; omega
          · have hkn : k = T.rules.length := by omega
            have HN1 : Hid (Nw W.heap.size q us ms rr op n T.rules.length (msK T kA T.rules.length) (opZ T kT (opK T kT T.rules.length) T.rules.length) H vs wr5) := hide (by have := HN.out; rw [hkn] at this; exact this)
            clear HN
            have c0 := HN1.out.bx.get (i := 0) rfl
            have c1 := HN1.out.bx.get (i := 1) rfl
            have c2 := HN1.out.bx.get (i := 2) rfl
            have c3 := HN1.out.bx.get (i := 3) rfl
            have HX2r := hide (HX2.out.keep (HBr.out.block _ HX2.out.lt))
            have hWb : bq + 1 < W.heap.size := HX2.out.lt
            go_upto_region 21 with fail
            refine wp_region_lit ?_
            refine wpList_plain rfl fun K hK => ?_
            go_simp
            refine hK _ _ ?_
            clear hK
            refine wpList_plain rfl fun K hK => ?_
            refine wp_store_row 71 _ _ rfl (bq + 1) _ rfl rfl _ _ HX2r.out (by kernel_rfl) rfl (by simp [sl, Value.oneCell']) ?_
            refine hK _ _ ?_
            clear hK
            have HFIN := hide (setRow_heap wr5 (bq + 1) _ #[sl us n, sl ms T.rules.length, sl rr T.rules.length, sl op n] _ _ HX2r.out)
            have HNF := hide (HN1.out.far (w' := wr5.setRow (bq + 1) #[sl us n, sl ms T.rules.length, sl rr T.rules.length, sl op n]) (fun g hg _ => setRow_other _ _ _ _ (by omega)) HB.out.size)
            have HBF := hide (below_setRow (b := bq + 1) (HB.out.trans (HBr.out.mono HB.out.size)) (by rw [HBQ.out]; omega) #[sl us n, sl ms T.rules.length, sl rr T.rules.length, sl op n])
            generalize wr5.setRow (bq + 1) #[sl us n, sl ms T.rules.length, sl rr T.rules.length, sl op n] = Y at *
            clear HN1 HBr c0 c1 c2 c3 HX2r HX2
            go_wp2_with fail
            refine bodyPost_ret (v := .agg #[sl us n, sl ms T.rules.length, sl rr T.rules.length, sl op n]) (res_wt rfl HFIN.out) rfl ?_
            exact ⟨q, us, ms, rr, op, vs, H, rfl, HNF.out, fun z hz => by have := HG1.out.u z hz; simpa using this, HBF.out⟩
end Go.Proofs.YtcobmbclhhimjaaGreat.Fa
