/- lay. (tools/gen16/lay.py wrote this.) -/
import Derived.Test.YtcobmbclhhimjaaGreatLyp
namespace Go.Proofs.YtcobmbclhhimjaaGreat.Fa
open Go.RowKit Rg

theorem infoMk : (Tryz.prog.info? 77).map (fun i => (i.zero, i.size, i.bytes)) = some (some (.int .u8 0), 1, 1) := by kernel_rfl
theorem rep_rowU {n : Nat} : Array.replicate n (Value.int .u8 0) = (rowU n fun _ => 0).toArray := by
  unfold rowU
  rw [List.map_const', List.length_range, List.toArray_replicate]
/-- The facts are open to nothing strict. -/
def factE (l : List Int) (e : Es) : Es := { e with op := updB e.op false (l.foldl (fun f x => upd f x 0) (e.op false)) }
theorem updB_twice {α : Type} {f : Bool → α} {b : Bool} {x y : α} : updB (updB f b x) b y = updB f b y := by
  funext c
  by_cases e : c = b
  · rw [e, updB_at, updB_at]
  · rw [updB_off e, updB_off e, updB_off e]
theorem factE_nil {e : Es} : factE [] e = e := by
  unfold factE
  have : updB e.op false (e.op false) = e.op := by
    funext c
    cases c
    · rw [updB_at]
    · rw [updB_off (by decide)]
  rw [List.foldl_nil, this]
theorem factE_snoc {l : List Int} {x : Int} {e : Es} : factE (l ++ [x]) e = { factE l e with op := updB (factE l e).op false (upd ((factE l e).op false) x 0) } := by
  unfold factE
  simp only [updB_at, updB_twice, List.foldl_append, List.foldl_cons, List.foldl_nil]
/-- What is made is as one look at the theory shows. -/
structure StartOk (T : Th) (F : List Int) (n : Nat) : Prop where
  ms : ∀ b (r : Nat), r < T.rules.length → (factE F (baseE T F n)).ms b r = (startE T F).ms b r
  op : ∀ b (q : Nat), q < n → (factE F (baseE T F n)).op b q = (startE T F).op b q
  cd : ∀ s : Nat, s < T.rules.length → ∀ p ∈ rivalsL T (headOf T s), (factE F (baseE T F n)).cd s p = (startE T F).cd s p
  ob : ∀ q : Nat, q < n → (factE F (baseE T F n)).ob q = (startE T F).ob q
set_option maxRecDepth 100000 in
set_option maxHeartbeats 12800000 in
theorem lay_any {w : World} {T : Th} {F : List Int} {n : Nat} {fa ra ba ea : Option Addr} {fc rc bc ec : Nat} (h : TA w.heap.size w T fa fc ra rc ba bc) (hF : Ints w.heap.size w F (.slice ea F.length ec)) (hp : Pf T F n) (hso : StartOk T F n) :
    Calls Tryz.prog 48 #[tv T fa fc ra rc ba bc, .slice ea F.length ec] w fun o w' => ∃ A S, o = .returned (ptr A.K) ∧ Eg w.heap.size S A T F n (layE T F n) w' ∧ Below w.heap.size w w' := by
  obtain ⟨iM, hiM, zM0, zM1, zM2⟩ := info_parts infoMk
  have hn4 := hp.n4
  have hrl : T.rules.length ≤ 4096 := hp.ok.rl
  have hmM : ∀ W, (Instr.makeSlice 29 (.int .i64 T.lits) (.int .i64 T.lits)).run Tryz.prog W = .ok (sl W.heap.size n) (W.alloc (.cells (Array.replicate n (.int .u8 0)) 77)) := fun W => by rw [hp.ln]; exact run_make_fix (P := Tryz.prog) Tryz.underlying29 hiM zM0 zM1 rfl n (by rw [zM2]; omega) (by unfold maxLen; omega) W
  have hB1 := below_new w (.cells #[.int .i64 T.lits, .slice fa T.foes.length fc, .slice ra T.rules.length rc, .slice ba T.beats.length bc] 25)
  have hX1 : Fx w.heap.size 25 [.int .i64 T.lits, .slice fa T.foes.length fc, .slice ra T.rules.length rc, .slice ba T.beats.length bc] (w.alloc (.cells #[.int .i64 T.lits, .slice fa T.foes.length fc, .slice ra T.rules.length rc, .slice ba T.beats.length bc] 25)) := heap_alloc_new w _
  have hT1 := TR.go hB1 h
  have hF1 := Ints.go hB1 hF
  have CI := hide (newIndex_any hT1 hF1 hp)
  have HT := hide h
  have HF := hide hF
  have HP := hide hp
  have HSO := hide hso
  have HB := hide hB1
  have HX1 := hide hX1
  have t0 := hX1.get (i := 0) rfl
  have t1 := hX1.get (i := 1) rfl
  have t2 := hX1.get (i := 2) rfl
  have t3 := hX1.get (i := 3) rfl
  clear h hF hp hso hB1 hT1 hF1 hX1 hiM zM0 zM1 zM2
  have hfol : Tryz.prog.follows .mixedOrders = true := by kernel_rfl
  go_enter Tryz.func48, Tryz.ntmps48
  go_upto_region 2 with (go_at_call 64; refine CI.out.mono ?_; rintro _ w1 ⟨q, rl, tm, rv, fm, vs, H, rfl, hn, hh, hb⟩; have HN := hide hn; have HH := hide hh; have HB1 := hide hb; clear hn hh hb)
  clear CI t0 t1 t2 t3
  generalize w.alloc (.cells #[.int .i64 T.lits, .slice fa T.foes.length fc, .slice ra T.rules.length rc, .slice ba T.beats.length bc] 25) = W at *
  obtain ⟨tb, htb⟩ : ∃ tb, w.heap.size = tb := ⟨_, rfl⟩
  have HTB := hide htb
  rw [htb] at HX1 ⊢
  clear htb
  have hI1 : Fx w1.heap.size 69 (ixL T fa ra ba fc rc bc rl tm rv fm n) (w1.alloc (.cells (ixL T fa ra ba fc rc bc rl tm rv fm n).toArray 69)) := heap_alloc_new w1 _
  have hbi := below_new w1 (.cells (ixL T fa ra ba fc rc bc rl tm rv fm n).toArray 69)
  have hdr := (Below.refl (w1.alloc (.cells (ixL T fa ra ba fc rc bc rl tm rv fm n).toArray 69)).heap.size (w1.alloc (.cells (ixL T fa ra ba fc rc bc rl tm rv fm n).toArray 69))).drew
  obtain ⟨W0, hW0⟩ : ∃ W0, (w1.alloc (.cells (ixL T fa ra ba fc rc bc rl tm rv fm n).toArray 69)).drew = W0 := ⟨_, rfl⟩
  have HWD := hide hW0
  rw [hW0] at hdr
  have hb0 : Below w1.heap.size w1 W0 := hbi.trans (hdr.mono hbi.size)
  have HI0 := hide (hI1.keep (hdr.block _ hI1.lt))
  have HX0 := hide ((HX1.out.keep (HB1.out.block _ HX1.out.lt)).keep (hb0.block _ (HX1.out.keep (HB1.out.block _ HX1.out.lt)).lt))
  have HN0 := hide (HN.out.go hb0)
  have HBW : Hid (Below w.heap.size w W0) := hide (HB.out.trans ((HB1.out.trans (hb0.mono HB1.out.size)).mono HB.out.size))
  have hle0 : W.heap.size ≤ W0.heap.size := Nat.le_trans HB1.out.size hb0.size
  have htb0 : tb < W0.heap.size := HX0.out.lt
  obtain ⟨ib, hib⟩ : ∃ ib, w1.heap.size = ib := ⟨_, rfl⟩
  rw [hib] at HI0 ⊢
  clear hbi hdr hW0 hib hI1 hb0 HN HB1 HB HX1
  have HBX : Hid (∀ X, Below W0.heap.size W0 X → Below w.heap.size w X) := hide fun X hX => HBW.out.trans (hX.mono HBW.out.size)
  have HTX : Hid (∀ X, Below W0.heap.size W0 X → TA X.heap.size X T fa fc ra rc ba bc) := hide fun X hX => TR.go (HBX.out X hX) HT.out
  have HIY : Hid (∀ X, Below W0.heap.size W0 X → LL (fun k => k < W0.heap.size) (rulesL T kA) n rl X ∧ LL (fun k => k < W0.heap.size) (rulesL T kT) n tm X ∧ LL (fun k => k < W0.heap.size) (rivalsL T) n rv X ∧ Fx fm 4 (rowB n (firmB T F)) X) := hide fun X hX =>
    ⟨(HN0.out.h3.ll (c := 0) (S := fun k => k < W0.heap.size) (by decide) (fun z hz => (HH.out z hz).1) fun k _ h => h).keep fun k hk => hX.block k hk, (HN0.out.h3.ll (c := 1) (S := fun k => k < W0.heap.size) (by decide) (fun z hz => (HH.out z hz).2.1) fun k _ h => h).keep fun k hk => hX.block k hk, (HN0.out.h3.ll (c := 2) (S := fun k => k < W0.heap.size) (by decide) (fun z hz => (HH.out z hz).2.2) fun k _ h => h).keep fun k hk => hX.block k hk, HN0.out.ff.keep (hX.block _ HN0.out.ff.lt)⟩
  have HIX : Hid (∀ X, Below W0.heap.size W0 X → Ix X T F n rl tm rv fm fa ra ba fc rc bc) := hide fun X hX => by
    obtain ⟨a, b, c, d⟩ := HIY.out X hX
    exact ⟨HTX.out X hX, a.sub fun k hk => Nat.lt_of_lt_of_le hk hX.size, b.sub fun k hk => Nat.lt_of_lt_of_le hk hX.size, c.sub fun k hk => Nat.lt_of_lt_of_le hk hX.size, d⟩
  have HCI : Hid (∀ X, Below W0.heap.size W0 X → X.cell? ⟨ib, 0, none⟩ = some (.int .i64 T.lits) ∧ X.cell? ⟨ib, 1, none⟩ = some (.slice fa T.foes.length fc) ∧ X.cell? ⟨ib, 2, none⟩ = some (.slice ra T.rules.length rc) ∧ X.cell? ⟨ib, 3, none⟩ = some (.slice ba T.beats.length bc) ∧ X.cell? ⟨ib, 4, none⟩ = some (sl rl n) ∧ X.cell? ⟨ib, 5, none⟩ = some (sl tm n) ∧ X.cell? ⟨ib, 6, none⟩ = some (sl rv n) ∧ X.cell? ⟨ib, 7, none⟩ = some (sl fm n)) := hide fun X hX => by
    have hf := HI0.out.keep (hX.block _ HI0.out.lt)
    exact ⟨hf.get (i := 0) rfl, hf.get (i := 1) rfl, hf.get (i := 2) rfl, hf.get (i := 3) rfl, hf.get (i := 4) rfl, hf.get (i := 5) rfl, hf.get (i := 6) rfl, hf.get (i := 7) rfl⟩
  have HCT : Hid (∀ X, Below W0.heap.size W0 X → X.cell? ⟨tb, 0, none⟩ = some (.int .i64 T.lits) ∧ X.cell? ⟨tb, 1, none⟩ = some (.slice fa T.foes.length fc) ∧ X.cell? ⟨tb, 2, none⟩ = some (.slice ra T.rules.length rc) ∧ X.cell? ⟨tb, 3, none⟩ = some (.slice ba T.beats.length bc)) := hide fun X hX => by
    have hf := HX0.out.keep (hX.block _ HX0.out.lt)
    exact ⟨hf.get (i := 0) rfl, hf.get (i := 1) rfl, hf.get (i := 2) rfl, hf.get (i := 3) rfl⟩
  have HOKD : Hid (okD [some 14, some 15, some 16, some 17, some 18, some 19, some 20, some 21, some 22, some 23, some 24, some 25, some 26, some 27, some 6] [(5, ptr ib), (2, ptr tb)] = true) := hide rfl
  have HTB0 := hide htb0
  clear htb0
  have e40 : Hid (∀ args w', (callFunc 65 args).run Tryz.prog w' = .ok (.enter 65 args) w') := hide (enters_go Tryz.func65 (by kernel_rfl) (by kernel_rfl))
  have e44 : Hid (∀ args w', (callFunc 69 args).run Tryz.prog w' = .ok (.enter 69 args) w') := hide (enters_go Tryz.func69 (by kernel_rfl) (by kernel_rfl))
  have e45 : Hid (∀ args w', (callFunc 70 args).run Tryz.prog w' = .ok (.enter 70 args) w') := hide (enters_go Tryz.func70 (by kernel_rfl) (by kernel_rfl))
  refine region_j NoE (Jg [some 14, some 15, some 16, some 17, some 18, some 19, some 20, some 21, some 22, some 23, some 24, some 25, some 26, some 27, some 6] [(5, ptr ib), (2, ptr tb)] (prL T F fa ra ba fc rc bc rl tm rv fm tb n W0.heap.size) W0) (by kernel_rfl) (by kernel_rfl) ?_ (steps_j ⟨?_, ?_, ?_, ?_, ?_, ?_, ?_, ?_, ?_, ?_, ?_, ?_, ?_, ?_, ?_, trivial⟩) ?_ ?_
  · have := HWD.out
    show Jg _ _ _ W0 _ _ ((w1.alloc _).drew)
    rw [this]
    exact Jg.start.2 fun p hp => by simp at hp; rcases hp with rfl | rfl <;> rfl
  · intro ρ X L hc hf hL hd hcl hJ
    have k5 : ρ (.tmp 5) = ptr ib := hJ.base (5, ptr ib) (by simp)
    obtain ⟨c0, c1, c2, c3, c4, c5, c6, c7⟩ := HCI.out X hJ.low
    refine does_value (v := .agg (ixL T fa ra ba fc rc bc rl tm rv fm n).toArray) (w' := X) ?_ (hJ.put HOKD.out prL_go (i := 0) (d := 14) rfl (Below.refl _ _) (rfl))
    clear hd hcl hJ hL
    go_simp
  · intro ρ X L hc hf hL hd hcl hJ
    have k2 : ρ (.tmp 2) = ptr tb := hJ.base (2, ptr tb) (by simp)
    obtain ⟨c0, c1, c2, c3⟩ := HCT.out X hJ.low
    refine does_value (v := .agg #[.int .i64 T.lits, .slice fa T.foes.length fc, .slice ra T.rules.length rc, .slice ba T.beats.length bc]) (w' := X) ?_ (hJ.put HOKD.out prL_go (i := 1) (d := 15) rfl (Below.refl _ _) (rfl))
    clear hd hcl hJ hL
    go_simp
  · intro ρ X L hc hf hL hd hcl hJ
    obtain ⟨_, _, _, e1⟩ := hJ.get (i := 1) (d := 15) rfl (hd ⟨1, .data⟩ (by simp) rfl)
    have k15 : ρ (.tmp 15) = tv T fa fc ra rc ba bc := e1
    clear e1
    have hC := newWaits_strict (HTX.out X hJ.low) HP.out
    have he := e40.out #[tv T fa fc ra rc ba bc, .func (.func 66) #[] #[], .func (.func 66) #[] #[]] X
    refine does_call (f := 65) (args := #[tv T fa fc ra rc ba bc, .func (.func 66) #[] #[], .func (.func 66) #[] #[]]) (w' := X) ?_ hC ?_
    · clear hd hcl hJ hL hC
      go_simp
    · rintro _ Y ⟨q, us, ms, rr, op, vs, H, rfl, hn, hu, hb⟩
      exact ⟨_, rfl, hJ.put HOKD.out prL_go (i := 2) (d := 16) rfl hb (⟨us, ms, rr, op, rfl, Wt.of (b := false) hn hu⟩)⟩
  · intro ρ X L hc hf hL hd hcl hJ
    have k2 : ρ (.tmp 2) = ptr tb := hJ.base (2, ptr tb) (by simp)
    obtain ⟨c0, c1, c2, c3⟩ := HCT.out X hJ.low
    refine does_value (v := .agg #[.int .i64 T.lits, .slice fa T.foes.length fc, .slice ra T.rules.length rc, .slice ba T.beats.length bc]) (w' := X) ?_ (hJ.put HOKD.out prL_go (i := 3) (d := 17) rfl (Below.refl _ _) (rfl))
    clear hd hcl hJ hL
    go_simp
  · intro ρ X L hc hf hL hd hcl hJ
    obtain ⟨_, _, _, e1⟩ := hJ.get (i := 3) (d := 17) rfl (hd ⟨3, .data⟩ (by simp) rfl)
    have k17 : ρ (.tmp 17) = tv T fa fc ra rc ba bc := e1
    clear e1
    have hC := newWaits_all (HTX.out X hJ.low) HP.out
    have he := e40.out #[tv T fa fc ra rc ba bc, .func (.func 67) #[] #[], .func (.func 68) #[] #[]] X
    refine does_call (f := 65) (args := #[tv T fa fc ra rc ba bc, .func (.func 67) #[] #[], .func (.func 68) #[] #[]]) (w' := X) ?_ hC ?_
    · clear hd hcl hJ hL hC
      go_simp
    · rintro _ Y ⟨q, us, ms, rr, op, vs, H, rfl, hn, hu, hb⟩
      exact ⟨_, rfl, hJ.put HOKD.out prL_go (i := 4) (d := 18) rfl hb (⟨us, ms, rr, op, rfl, Wt.of (b := true) hn hu⟩)⟩
  · intro ρ X L hc hf hL hd hcl hJ
    have k5 : ρ (.tmp 5) = ptr ib := hJ.base (5, ptr ib) (by simp)
    obtain ⟨c0, c1, c2, c3, c4, c5, c6, c7⟩ := HCI.out X hJ.low
    refine does_value (v := .agg (ixL T fa ra ba fc rc bc rl tm rv fm n).toArray) (w' := X) ?_ (hJ.put HOKD.out prL_go (i := 5) (d := 19) rfl (Below.refl _ _) (rfl))
    clear hd hcl hJ hL
    go_simp
  · intro ρ X L hc hf hL hd hcl hJ
    obtain ⟨_, _, _, e1⟩ := hJ.get (i := 5) (d := 19) rfl (hd ⟨5, .data⟩ (by simp) rfl)
    have k19 : ρ (.tmp 19) = .agg (ixL T fa ra ba fc rc bc rl tm rv fm n).toArray := e1
    clear e1
    have hC := newClashes_any (HIX.out X hJ.low) HP.out
    have he := e44.out #[.agg (ixL T fa ra ba fc rc bc rl tm rv fm n).toArray] X
    refine does_call (f := 69) (args := #[.agg (ixL T fa ra ba fc rc bc rl tm rv fm n).toArray]) (w' := X) ?_ hC ?_
    · clear hd hcl hJ hL hC
      go_simp
    · rintro _ Y ⟨cl, cr, rfl, hz, hb⟩
      exact ⟨_, rfl, hJ.put HOKD.out prL_go (i := 6) (d := 20) rfl hb (⟨cl, cr, rfl, hz, fun s hs => (hz.cs s hs).lt⟩)⟩
  · intro ρ X L hc hf hL hd hcl hJ
    have k5 : ρ (.tmp 5) = ptr ib := hJ.base (5, ptr ib) (by simp)
    obtain ⟨c0, c1, c2, c3, c4, c5, c6, c7⟩ := HCI.out X hJ.low
    refine does_value (v := .agg (ixL T fa ra ba fc rc bc rl tm rv fm n).toArray) (w' := X) ?_ (hJ.put HOKD.out prL_go (i := 7) (d := 21) rfl (Below.refl _ _) (rfl))
    clear hd hcl hJ hL
    go_simp
  · intro ρ X L hc hf hL hd hcl hJ
    obtain ⟨_, _, _, e1⟩ := hJ.get (i := 7) (d := 21) rfl (hd ⟨7, .data⟩ (by simp) rfl)
    have k21 : ρ (.tmp 21) = .agg (ixL T fa ra ba fc rc bc rl tm rv fm n).toArray := e1
    clear e1
    have hC := newObstacles_any (HIX.out X hJ.low) HP.out
    have he := e45.out #[.agg (ixL T fa ra ba fc rc bc rl tm rv fm n).toArray] X
    refine does_call (f := 70) (args := #[.agg (ixL T fa ra ba fc rc bc rl tm rv fm n).toArray]) (w' := X) ?_ hC ?_
    · clear hd hcl hJ hL hC
      go_simp
    · rintro _ Y ⟨g, rfl, hg, hl, hb⟩
      exact ⟨_, rfl, hJ.put HOKD.out prL_go (i := 8) (d := 22) rfl hb (⟨g, rfl, hg, hl, hg.lt⟩)⟩
  · intro ρ X L hc hf hL hd hcl hJ
    have k2 : ρ (.tmp 2) = ptr tb := hJ.base (2, ptr tb) (by simp)
    obtain ⟨c0, c1, c2, c3⟩ := HCT.out X hJ.low
    refine does_value (v := ptr tb) (w' := X) ?_ (hJ.put HOKD.out prL_go (i := 9) (d := 23) rfl (Below.refl _ _) (rfl))
    clear hd hcl hJ hL
    go_simp
  · intro ρ X L hc hf hL hd hcl hJ
    obtain ⟨_, _, _, e1⟩ := hJ.get (i := 9) (d := 23) rfl (hd ⟨9, .data⟩ (by simp) rfl)
    have k23 : ρ (.tmp 23) = ptr tb := e1
    clear e1
    obtain ⟨c0, c1, c2, c3⟩ := HCT.out X hJ.low
    refine does_value (v := .int .i64 T.lits) (w' := X) ?_ (hJ.put HOKD.out prL_go (i := 10) (d := 24) rfl (Below.refl _ _) (rfl))
    clear hd hcl hJ hL
    go_simp
  · intro ρ X L hc hf hL hd hcl hJ
    obtain ⟨_, _, _, e1⟩ := hJ.get (i := 10) (d := 24) rfl (hd ⟨10, .data⟩ (by simp) rfl)
    have k24 : ρ (.tmp 24) = .int .i64 T.lits := e1
    clear e1
    have hmm := hmM X
    refine does_value (v := sl X.heap.size n) (w' := X.alloc (.cells (Array.replicate n (.int .u8 0)) 77)) ?_ (hJ.put HOKD.out prL_go (i := 11) (d := 25) rfl (below_new X _) (⟨X.heap.size, rfl, by unfold Fx; rw [heap_alloc_new, rep_rowU], Nat.le_refl _, by simp⟩))
    clear hd hcl hJ hL
    go_simp
  · intro ρ X L hc hf hL hd hcl hJ
    obtain ⟨lo, hi, hat, hdis⟩ := hJ.at_
    have l0 : L 0 = true := hd ⟨0, .data⟩ (by simp) rfl
    have l2 : L 2 = true := hd ⟨2, .data⟩ (by simp) rfl
    have l4 : L 4 = true := hd ⟨4, .data⟩ (by simp) rfl
    have l6 : L 6 = true := hd ⟨6, .data⟩ (by simp) rfl
    have l8 : L 8 = true := hd ⟨8, .data⟩ (by simp) rfl
    have l11 : L 11 = true := hd ⟨11, .data⟩ (by simp) rfl
    obtain ⟨-, -, -, e0⟩ := hat 0 14 rfl l0
    obtain ⟨p2, -, m2, u0, s0, r0, o0, e2, w2⟩ := hat 2 16 rfl l2
    obtain ⟨p4, -, m4, u1, s1, r1, o1, e4, w4⟩ := hat 4 18 rfl l4
    obtain ⟨p6, -, -, cl, cr, e6, z6, h6⟩ := hat 6 20 rfl l6
    obtain ⟨p8, -, -, ob, e8, f8, a8, b8⟩ := hat 8 22 rfl l8
    obtain ⟨p11, -, -, mq, e11, f11, a11, b11⟩ := hat 11 25 rfl l11
    have hLp := Lp.of (K := tb) (fa := fa) (ra := ra) (ba := ba) (fc := fc) (rc := rc) (bc := bc) (rl := rl) (tm := tm) (rv := rv) (fm := fm) HTB0.out w2 w4 z6 h6 f8 ⟨a8, b8⟩ f11 ⟨a11, b11⟩ p2 p4 p6 p8 p11 m2 m4 (hdis 2 4 16 18 rfl rfl (by decide) l2 l4) (hdis 2 6 16 20 rfl rfl (by decide) l2 l6) (hdis 2 8 16 22 rfl rfl (by decide) l2 l8) (hdis 2 11 16 25 rfl rfl (by decide) l2 l11) (hdis 4 6 18 20 rfl rfl (by decide) l4 l6) (hdis 4 8 18 22 rfl rfl (by decide) l4 l8) (hdis 4 11 18 25 rfl rfl (by decide) l4 l11)
    have k14 : ρ (.tmp 14) = .agg #[.int .i64 T.lits, .slice fa T.foes.length fc, .slice ra T.rules.length rc, .slice ba T.beats.length bc, sl rl n, sl tm n, sl rv n, sl fm n] := e0
    have k16 : ρ (.tmp 16) = .agg #[sl u0 n, sl s0 T.rules.length, sl r0 T.rules.length, sl o0 n] := e2
    have k18 : ρ (.tmp 18) = .agg #[sl u1 n, sl s1 T.rules.length, sl r1 T.rules.length, sl o1 n] := e4
    have k20 : ρ (.tmp 20) = sl cl T.rules.length := e6
    have k22 : ρ (.tmp 22) = sl ob n := e8
    have k25 : ρ (.tmp 25) = sl mq n := e11
    refine does_value (v := .agg #[.int .i64 T.lits, .slice fa T.foes.length fc, .slice ra T.rules.length rc, .slice ba T.beats.length bc, sl rl n, sl tm n, sl rv n, sl fm n, sl u0 n, sl s0 T.rules.length, sl r0 T.rules.length, sl o0 n, sl u1 n, sl s1 T.rules.length, sl r1 T.rules.length, sl o1 n, sl cl T.rules.length, sl ob n, sl mq n, .slice none 0 0, .int .i64 0, .int .i64 0]) (w' := X) ?_ (hJ.put HOKD.out prL_go (i := 12) (d := 26) rfl (Below.refl _ _) ⟨u0, s0, r0, o0, u1, s1, r1, o1, cl, ob, mq, cr, rfl, hLp⟩)
    clear hd hcl hJ hL hat hdis hLp e0 e2 e4 e6 e8 e11 w2 w4 z6 h6 f8 f11
    go_simp
  · intro ρ X L hc hf hL hd hcl hJ
    obtain ⟨_, _, _, u0, s0, r0, o0, u1, s1, r1, o1, cl, ob, mq, cr, e1, hLp⟩ := hJ.get (i := 12) (d := 26) rfl (hd ⟨12, .data⟩ (by simp) rfl)
    have k26 : ρ (.tmp 26) = .agg #[.int .i64 T.lits, .slice fa T.foes.length fc, .slice ra T.rules.length rc, .slice ba T.beats.length bc, sl rl n, sl tm n, sl rv n, sl fm n, sl u0 n, sl s0 T.rules.length, sl r0 T.rules.length, sl o0 n, sl u1 n, sl s1 T.rules.length, sl r1 T.rules.length, sl o1 n, sl cl T.rules.length, sl ob n, sl mq n, .slice none 0 0, .int .i64 0, .int .i64 0] := e1
    refine does_value (v := ptr X.heap.size) (w' := X.alloc (.cells #[.int .i64 T.lits, .slice fa T.foes.length fc, .slice ra T.rules.length rc, .slice ba T.beats.length bc, sl rl n, sl tm n, sl rv n, sl fm n, sl u0 n, sl s0 T.rules.length, sl r0 T.rules.length, sl o0 n, sl u1 n, sl s1 T.rules.length, sl r1 T.rules.length, sl o1 n, sl cl T.rules.length, sl ob n, sl mq n, .slice none 0 0, .int .i64 0, .int .i64 0] 74)) ?_ (hJ.put HOKD.out prL_go (i := 13) (d := 27) rfl (below_new X _) ⟨X.heap.size, u0, s0, r0, o0, u1, s1, r1, o1, cl, ob, mq, cr, rfl, hJ.low.size, heap_alloc_new X _, hLp.key.keep (below_new X _)⟩)
    clear hd hcl hJ hL e1 hLp
    go_simp
  · intro ρ X L hc hf hL hd hcl hJ
    obtain ⟨_, _, _, K, u0, s0, r0, o0, u1, s1, r1, o1, cl, ob, mq, cr, e1, h1, h2, h3⟩ := hJ.get (i := 13) (d := 27) rfl (hd ⟨13, .data⟩ (by simp) rfl)
    have k27 : ρ (.tmp 27) = ptr K := e1
    refine does_value (v := ptr K) (w' := X) ?_ (hJ.put HOKD.out prL_go (i := 14) (d := 6) rfl (Below.refl _ _) ⟨K, u0, s0, r0, o0, u1, s1, r1, o1, cl, ob, mq, cr, rfl, h1, h2, h3⟩)
    clear hd hcl hJ hL e1 h2 h3
    go_simp
  · intro c a' w' _ hE
    exact hE.elim
  · rintro ⟨tmm, df⟩ w' hsz hdf ⟨L, hL, hJ⟩ hold
    simp only at hdf hsz
    subst hdf
    obtain ⟨_, _, _, K, u0, s0, r0, o0, u1, s1, r1, o1, cl, ob, mq, cr, e6, h1, h2, h3⟩ := hJ.get (i := 14) (d := 6) rfl (hL 14 (by decide))
    have e6 : tmm.getD 6 undef = ptr K := e6
    have htm := frame_keep1 14 27 6 (by kernel_rfl) hsz hold
    simp only [zs, Nat.reduceLT, Nat.reduceAdd, true_or, or_true, or_self, false_and, ne_eq, Nat.reduceEqDiff, not_false_eq_true, not_true_eq_false, and_self, and_false, if_true, if_false, e6] at htm
    rw [htm]
    obtain ⟨ia, it, iv, iff_⟩ := HIY.out w' hJ.low
    obtain ⟨A, hA⟩ : ∃ A : Ad, mkA K fa ra ba fc rc bc rl tm rv fm u0 s0 r0 o0 u1 s1 r1 o1 cl ob mq cr = A := ⟨_, rfl⟩
    have hKA : A.K = K := by rw [← hA]
    have hEn : En w.heap.size (Sk A T.rules.length w') A T F n (baseE T F n) (.slice none 0 0) w' := by
      have hiy : Iy w.heap.size W0.heap.size A T F n w' := by
        rw [← hA]
        exact ⟨TR.keep (HBX.out w' hJ.low).block HT.out, ia, it, iv, iff_, HN0.out.ff.lt⟩
      rw [hA] at h2 h3
      exact En.of HP.out h3 hiy HBW.out.size (by rw [hKA]; exact h1) (by rw [hKA]; exact h2)
    have HE := hide hEn
    have HBL := hide (HBX.out w' hJ.low)
    have HXT := hide (HX0.out.keep (hJ.low.block _ HX0.out.lt))
    have HLOW : Hid (∀ k, k < W0.heap.size → Sk A T.rules.length w' k) := hide fun k hk => ⟨Nat.lt_of_lt_of_le hk hJ.low.size, fun e => (by rw [hKA] at e; omega), fun hm => (by rw [hA] at h3; have := h3.lo k hm; omega)⟩
    rw [← hKA]
    clear htm hJ hL hold hsz e6 h2 h3 hEn ia it iv iff_ hA hKA HCI HCT HOKD HIX HIY HTX HN0 e40 e44 e45 hmM HI0 HX0
    generalize tmm.getD 14 undef = x14
    generalize tmm.getD 15 undef = x15
    generalize tmm.getD 16 undef = x16
    generalize tmm.getD 17 undef = x17
    generalize tmm.getD 18 undef = x18
    generalize tmm.getD 19 undef = x19
    generalize tmm.getD 20 undef = x20
    generalize tmm.getD 21 undef = x21
    generalize tmm.getD 22 undef = x22
    generalize tmm.getD 23 undef = x23
    generalize tmm.getD 24 undef = x24
    generalize tmm.getD 25 undef = x25
    generalize tmm.getD 26 undef = x26
    generalize tmm.getD 27 undef = x27
    have HSl : Hid (∀ k, k < W0.heap.size → Sk A T.rules.length w' k) := hide HLOW.out
    clear h1 HLOW
    have HST : Hid (Sk A T.rules.length w' tb) := hide (HSl.out tb HTB0.out)
    have HLO : Hid (∀ k, k < w.heap.size → Sk A T.rules.length w' k) := hide fun k hk => HSl.out k (Nat.lt_of_lt_of_le hk HBW.out.size)
    clear HSl
    generalize Sk A T.rules.length w' = S at *
    have HBf : Hid (∀ X, Fr (fun k => ¬ S k) w' X → Below w.heap.size w X) := hide fun X hX => HBL.out.trans (hX.below fun k hk => ⟨Nat.lt_of_lt_of_le hk HBL.out.size, fun hn => hn (HLO.out k hk)⟩)
    have HXf : Hid (∀ X, Fr (fun k => ¬ S k) w' X → Fx tb 25 [.int .i64 T.lits, .slice fa T.foes.length fc, .slice ra T.rules.length rc, .slice ba T.beats.length bc] X) := hide fun X hX => HXT.out.keep (hX.block _ HXT.out.lt fun hn => hn HST.out)
    have hFl := HF.out.lim
    go_wp2_with fail
    go_loopw [30] (fun x wr => ∃ k : Nat, k ≤ F.length ∧ x = .int .i64 k ∧ Hid (En w.heap.size S A T F n (factE (F.take k) (baseE T F n)) (.slice none 0 0) wr) ∧ Hid (Fr (fun k => ¬ S k) w' wr)) (fun x _ => F.length - (intOf x).toNat)
    case atStart => exact ⟨0, by omega, rfl, hide (by rw [List.take_zero, factE_nil]; exact HE.out), hide (Fr.refl _ _)⟩
    case round =>
      obtain ⟨k, hk, rfl, HEr, HFr⟩ := hrel
      by_cases hlt : k < F.length
      · obtain ⟨x, hx⟩ := get_at hlt
        obtain ⟨x0, x1⟩ := HP.out.fact x (List.mem_of_getElem? hx)
        obtain ⟨xm, rfl⟩ := Int.eq_ofNat_of_zero_le x0
        have hxn : xm < n := by omega
        obtain ⟨ge, oe, rfl, cx⟩ := ((Ints.go (HBf.out wr HFr.out) HF.out).at1).get hx
        have c11 := HEr.out.bx.get (i := 11) rfl
        have co := (HEr.out.op false).get (rowI_at hxn)
        have zo := (HEr.out.op false).frz xm
        have h2 := HEr.out.setOp false hxn 0
        have HE2 : Hid (En w.heap.size S A T F n (factE (F.take (k + 1)) (baseE T F n)) (.slice none 0 0) (wr.setCell ⟨A.op false, xm, none⟩ (.int .i64 0))) := hide (by rw [take_snoc hx, factE_snoc]; exact h2.1)
        have HF2 := hide (HFr.out.trans h2.2)
        generalize (factE (F.take k) (baseE T F n)).op false xm = xo at co
        clear hx x0 x1 h2 HEr HFr
        go_wp2_with fail
        go_roundw
        case rel => exact ⟨k + 1, by omega, by go_num, HE2, HF2⟩
        case measure => simp [intOf]; omega
      · have HE1 : Hid (Eg w.heap.size S A T F n (startE T F) wr) := hide (by
          have h3 := HEr.out
          rw [List.take_of_length_le (by omega)] at h3
          exact ⟨_, h3.congr HSO.out.ms (fun _ _ _ => rfl) HSO.out.op (fun s hs p hp => ⟨HSO.out.cd s hs p hp, rfl⟩) HSO.out.ob rfl rfl rfl rfl⟩)
        have HF1 := hide HFr.out
        clear HEr HFr HE
        have c2 := (HXf.out wr HF1.out).get (i := 2) rfl
        go_wp2_with fail
        clear c2
        go_loopw [45] (fun x wr => ∃ k : Nat, k ≤ T.rules.length ∧ x = .int .i64 k ∧ Hid (Eg w.heap.size S A T F n (bareE T k (startE T F)) wr) ∧ Hid (Fr (fun k => ¬ S k) w' wr)) (fun x _ => T.rules.length - (intOf x).toNat)
        case atStart => exact ⟨0, by omega, rfl, HE1, HF1⟩
        case round =>
          clear HE1 HF1
          rename World => wr2
          obtain ⟨k, hk, rfl, HEr, HFr⟩ := hrel
          by_cases hlt : k < T.rules.length
          · have HNX : Hid (bareE T (k + 1) (startE T F) = bare1 T (bareE T k (startE T F)) k) := hide range_snoc
            generalize bareE T k (startE T F) = e1 at HEr HNX
            obtain ⟨r, hr⟩ := get_at hlt
            obtain ⟨h0, h1⟩ := HP.out.head r (List.mem_of_getElem? hr)
            obtain ⟨hm, hhm⟩ := Int.eq_ofNat_of_zero_le h0
            have htm : teamB T k = !decide (r.kind = 3) := by unfold teamB; rw [Int.toNat_natCast, hr]; rfl
            have hBD : bodyM T k = r.body := by unfold bodyM; rw [Int.toNat_natCast, hr]; rfl
            obtain ⟨gr, go, bd, bp, rfl, hgr, x0, x1, x2, -, hbl, hbody⟩ := at_R (TR.keep (HBf.out wr2 HFr.out).block HT.out).rules hr
            rw [hhm] at x1
            have hBq := below_new wr2 (.cells #[.int .i64 r.kind, .int .i64 hm, .slice bd r.body.length bp] 81)
            have HQ : Hid (Fx wr2.heap.size 81 [.int .i64 r.kind, .int .i64 hm, .slice bd r.body.length bp] (wr2.alloc (.cells #[.int .i64 r.kind, .int .i64 hm, .slice bd r.body.length bp] 81))) := hide (heap_alloc_new wr2 _)
            have HEq := hide (HEr.out.go hBq)
            have HFq := hide (HFr.out.trans (Fr.of_below hBq))
            have HTM := hide htm
            have HBD := hide hBD
            have HL := hide hlt
            clear hr h0 h1 hhm hBq hbody HEr HFr hgr htm hBD
            go_upto_region 11 with fail
            clear x0 x1 x2
            generalize wr2.alloc (.cells #[.int .i64 r.kind, .int .i64 hm, .slice bd r.body.length bp] 81) = wq at *
            obtain ⟨qr, hqr⟩ : ∃ qr, wr2.heap.size = qr := ⟨_, rfl⟩
            rw [hqr] at HQ ⊢
            clear hqr
            have q0 := HQ.out.get (i := 0) rfl
            have q1 := HQ.out.get (i := 1) rfl
            have q2 := HQ.out.get (i := 2) rfl
            have CT := hide (isTeam_any (w := wq) (k := r.kind) (h := (hm : Int)) (v := .slice bd r.body.length bp))
            have HC6 : Hid (∀ X, Below wq.heap.size wq X → X.cell? ⟨qr, 2, none⟩ = some (.slice bd r.body.length bp)) := hide fun X hX => (HQ.out.keep (hX.block _ HQ.out.lt)).get (i := 2) rfl
            cases htk : decide (r.kind = 3) with
            | true =>
              have HB1 : Hid (bare1 T e1 k = e1) := hide (by unfold bare1; rw [HTM.out, htk]; rfl)
              rw [htk] at CT
              clear htk
              go_wp2_with (go_at_call 68; refine CT.out.mono ?_; rintro _ w5 ⟨rfl, hb⟩; have HB6 := hide hb; clear hb)
              go_roundw
              case rel => exact ⟨k + 1, by have := HL.out; omega, by go_num, hide (by rw [HNX.out, HB1.out]; exact HEq.out.go HB6.out), hide (HFq.out.trans (Fr.of_below HB6.out))⟩
              case measure => have := HL.out; simp [intOf]; omega
            | false =>
              have HTT : Hid (teamB T k = true) := hide (by rw [HTM.out, htk]; rfl)
              rw [htk] at CT
              clear htk
              by_cases he : r.body.length = 0
              · have hem : r.body.isEmpty = true := by rw [List.isEmpty_iff]; exact List.eq_nil_of_length_eq_zero he
                have HB1 : Hid (bare1 T e1 k = defendE T e1 k) := hide (by unfold bare1; rw [HTT.out, HBD.out, hem]; rfl)
                have he2 : ((r.body.length : Int) == 0) = true := by simpa using he
                clear hem
                rw [he] at CT q2 HC6 hbl he2
                go_wp2_with (first | (go_at_call 68; refine CT.out.mono ?_; rintro _ w5 ⟨rfl, hb⟩; have HB6 := hide hb; have k2 := HC6.out w5 hb; have CD := hide (defend_any (HEq.out.go hb) HL.out HTT.out); clear hb) | (go_at_call 71; refine CD.out.mono ?_; rintro _ w6 ⟨rfl, he6, hf6⟩; have HE6 := hide he6; have HF6 := hide hf6; clear he6 hf6))
                go_roundw
                case rel => exact ⟨k + 1, by have := HL.out; omega, by go_num, hide (by rw [HNX.out, HB1.out]; exact HE6.out), hide ((HFq.out.trans (Fr.of_below HB6.out)).trans HF6.out)⟩
                case measure => have := HL.out; simp [intOf]; omega
              · have hem : r.body.isEmpty = false := by cases hb : r.body with
                  | nil => rw [hb] at he; simp at he
                  | cons _ _ => rfl
                have HB1 : Hid (bare1 T e1 k = e1) := hide (by unfold bare1; rw [HTT.out, HBD.out, hem]; rfl)
                have he2 : ((r.body.length : Int) == 0) = false := by simpa using he
                have he3 : (r.body.length == 0) = false := by simpa using he
                obtain ⟨bl, hbl2⟩ : ∃ bl, r.body.length = bl := ⟨_, rfl⟩
                rw [hbl2] at HC6 he he2 he3 CT q2 hbl
                clear hem
                go_wp2_with (go_at_call 68; refine CT.out.mono ?_; rintro _ w5 ⟨rfl, hb⟩; have HB6 := hide hb; have k2 := HC6.out w5 hb; clear hb)
                go_roundw
                case rel => exact ⟨k + 1, by have := HL.out; omega, by go_num, hide (by rw [HNX.out, HB1.out]; exact HEq.out.go HB6.out), hide (HFq.out.trans (Fr.of_below HB6.out))⟩
                case measure => have := HL.out; simp [intOf]; omega
          · have hkn : k = T.rules.length := by omega
            have CB := hide (begin_any HEr.out)
            have HLE : Hid (layE T F n = { beginE T F n (bareE T k (startE T F)) with up := 0 }) := hide (by rw [hkn]; rfl)
            clear hkn
            generalize beginE T F n (bareE T k (startE T F)) = e3 at CB HLE
            clear HEr
            go_upto_region 15 with (go_at_call 72; refine CB.out.mono ?_; rintro _ w7 ⟨rfl, he7, hf7⟩; have HE7 := hide he7; have HF7 := hide (HFr.out.trans hf7); clear he7 hf7)
            obtain ⟨tv7, hE7⟩ := HE7.out
            have y21 := hE7.bx.get (i := 21) rfl
            have z21 := hE7.bx.frz 21
            have h8 := hE7.setUp 0
            have HE8 : Hid (Eg w.heap.size S A T F n (layE T F n) (w7.setCell ⟨A.K, 21, none⟩ (.int .i64 0))) := hide (by rw [HLE.out]; exact ⟨_, h8.1⟩)
            have HF8 := hide (HF7.out.trans h8.2)
            generalize e3.up = u3 at y21
            clear hE7 h8 HE7 HF7 CB HFr
            go_wp2_with fail
            go_ret
            exact ⟨A, S, rfl, HE8.out, HBf.out _ HF8.out⟩
end Go.Proofs.YtcobmbclhhimjaaGreat.Fa
