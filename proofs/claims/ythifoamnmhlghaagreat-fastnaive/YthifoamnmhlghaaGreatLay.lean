import Derived.Test.YthifoamnmhlghaaGreatLyp
set_option maxRecDepth 100000
set_option maxHeartbeats 12800000
namespace Go.Proofs.YthifoamnmhlghaaGreat.Fa
open Go.RowKit Rg
theorem tN : (Tryz.prog.info? 42).map (fun i => (i.zero, i.size, i.bytes)) = some (some (.int .u8 0), 1, 1) := by kernel_rfl
theorem rn {n : Nat} : Array.replicate n (Value.int .u8 0) = (eY n fun _ => 0).toArray := by
 unfold eY
 rw [List.map_const', List.length_range, List.toArray_replicate]
def dP (l : List Int) (e : Es) : Es := { e with op := aJ e.op false (l.foldl (fun f x => ar f x 0) (e.op false)) }
theorem o7 {α : Type} {f : Bool → α} {b : Bool} {x y : α} : aJ (aJ f b x) b y = aJ f b y := by
 funext c
 by_cases e : c = b
 · rw [e, aF, aF]
 · rw [aM e, aM e, aM e]
theorem pQ {e : Es} : dP [] e = e := by
 unfold dP
 have : aJ e.op false (e.op false) = e.op := by
  funext c
  cases c
  · rw [aF]
  · rw [aM (by decide)]
 rw [List.foldl_nil, this]
theorem pa {l : List Int} {x : Int} {e : Es} : dP (l ++ [x]) e = { dP l e with op := aJ (dP l e).op false (ar ((dP l e).op false) x 0) } := by
 unfold dP
 simp only [aF, o7, List.foldl_append, List.foldl_cons, List.foldl_nil]
structure lV (T : Th) (F : List Int) (n : Nat) : Prop where
 ms : ∀ b (r : Nat), r < T.rules.length → (dP F (eE T F n)).ms b r = (aS T F).ms b r
 op : ∀ b (q : Nat), q < n → (dP F (eE T F n)).op b q = (aS T F).op b q
 cd : ∀ s : Nat, s < T.rules.length → ∀ p ∈ ak T (ag T s), (dP F (eE T F n)).cd s p = (aS T F).cd s p
 ob : ∀ q : Nat, q < n → (dP F (eE T F n)).ob q = (aS T F).ob q
theorem sq {w : World} {T : Th} {F : List Int} {n : Nat} {fa ra ba ea : Option Addr} {fc rc bc ec : Nat} (h : TA w.heap.size w T fa fc ra rc ba bc) (hF : Ints w.heap.size w F (.slice ea F.length ec)) (hp : Pf T F n) (hso : lV T F n) :
    Calls Tryz.prog 16 #[tv T fa fc ra rc ba bc, .slice ea F.length ec] w fun o w' => ∃ A S, o = .returned (ae A.K) ∧ Eg w.heap.size S A T F n (iZ T F n) w' ∧ Below w.heap.size w w' := by
 obtain ⟨iM, Bc, Bu, AW, Bi⟩ := info_parts tN
 have Cf := hp.n4
 have BV : T.rules.length ≤ 4096 := hp.ok.rl
 have Bt : ∀ W, (Instr.makeSlice 28 (.int .i64 T.lits) (.int .i64 T.lits)).run Tryz.prog W = .ok (sl W.heap.size n) (W.alloc (.cells (Array.replicate n (.int .u8 0)) 42)) := fun W => by rw [hp.ln]; exact aL (P := Tryz.prog) Tryz.underlying28 Bc Bu AW rfl n (by rw [Bi]; omega) (by unfold maxLen; omega) W
 have AB := aa w (.cells #[.int .i64 T.lits, .slice fa T.foes.length fc, .slice ra T.rules.length rc, .slice ba T.beats.length bc] 25)
 have Al : Fx w.heap.size 25 [.int .i64 T.lits, .slice fa T.foes.length fc, .slice ra T.rules.length rc, .slice ba T.beats.length bc] (w.alloc (.cells #[.int .i64 T.lits, .slice fa T.foes.length fc, .slice ra T.rules.length rc, .slice ba T.beats.length bc] 25)) := heap_alloc_new w _
 have Bm := TR.go AB h
 have Be := Ints.go AB hF
 have CI := hide (m5 Bm Be hp)
 have HT := hide h
 have HF := hide hF
 have HP := hide hp
 have Az := hide hso
 have HB := hide AB
 have Ak := hide Al
 have t0 := Al.get (i := 0) rfl
 have t1 := Al.get (i := 1) rfl
 have t2 := Al.get (i := 2) rfl
 have t3 := Al.get (i := 3) rfl
 clear h hF hp hso AB Bm Be Al Bc Bu AW Bi
 have BU : Tryz.prog.follows .mixedOrders = true := by kernel_rfl
 go_enter Tryz.func16, Tryz.ntmps16
 go_upto_region 2 with (go_at_call 27; refine CI.out.mono ?_; rintro _ w1 ⟨q, rl, tm, rv, fm, vs, H, rfl, hn, hh, hb⟩; have HN := hide hn; have HH := hide hh; have Ae := hide hb; clear hn hh hb)
 clear CI t0 t1 t2 t3
 generalize w.alloc (.cells #[.int .i64 T.lits, .slice fa T.foes.length fc, .slice ra T.rules.length rc, .slice ba T.beats.length bc] 25) = W at *
 obtain ⟨tb, AP⟩ : ∃ tb, w.heap.size = tb := ⟨_, rfl⟩
 have Co := hide AP
 rw [AP] at Ak ⊢
 clear AP
 have AM : Fx w1.heap.size 46 (du T fa ra ba fc rc bc rl tm rv fm n) (w1.alloc (.cells (du T fa ra ba fc rc bc rl tm rv fm n).toArray 46)) := heap_alloc_new w1 _
 have AE := aa w1 (.cells (du T fa ra ba fc rc bc rl tm rv fm n).toArray 46)
 have Ay := (Below.refl (w1.alloc (.cells (du T fa ra ba fc rc bc rl tm rv fm n).toArray 46)).heap.size (w1.alloc (.cells (du T fa ra ba fc rc bc rl tm rv fm n).toArray 46))).drew
 obtain ⟨W0, AF⟩ : ∃ W0, (w1.alloc (.cells (du T fa ra ba fc rc bc rl tm rv fm n).toArray 46)).drew = W0 := ⟨_, rfl⟩
 have BE := hide AF
 rw [AF] at Ay
 have Ao : Below w1.heap.size w1 W0 := AE.trans (Ay.mono AE.size)
 have Au := hide (AM.keep (Ay.block _ AM.lt))
 have Aj := hide ((Ak.out.keep (Ae.out.block _ Ak.out.lt)).keep (Ao.block _ (Ak.out.keep (Ae.out.block _ Ak.out.lt)).lt))
 have Ah := hide (HN.out.go Ao)
 have Av : Hid (Below w.heap.size w W0) := hide (HB.out.trans ((Ae.out.trans (Ao.mono Ae.out.size)).mono HB.out.size))
 have BT : W.heap.size ≤ W0.heap.size := Nat.le_trans Ae.out.size Ao.size
 have AH : tb < W0.heap.size := Aj.out.lt
 obtain ⟨ib, Bl⟩ : ∃ ib, w1.heap.size = ib := ⟨_, rfl⟩
 rw [Bl] at Au ⊢
 clear AE Ay AF Bl AM Ao HN Ae HB Ak
 have AS : Hid (∀ X, Below W0.heap.size W0 X → Below w.heap.size w X) := hide fun X hX => Av.out.trans (hX.mono Av.out.size)
 have Aw : Hid (∀ X, Below W0.heap.size W0 X → TA X.heap.size X T fa fc ra rc ba bc) := hide fun X hX => TR.go (AS.out X hX) HT.out
 have AC : Hid (∀ X, Below W0.heap.size W0 X → LL (fun k => k < W0.heap.size) (af T kA) n rl X ∧ LL (fun k => k < W0.heap.size) (af T kT) n tm X ∧ LL (fun k => k < W0.heap.size) (ak T) n rv X ∧ Fx fm 4 (cM n (aD T F)) X) := hide fun X hX =>
  ⟨(Ah.out.h3.ll (c := 0) (S := fun k => k < W0.heap.size) (by decide) (fun z hz => (HH.out z hz).1) fun k _ h => h).keep fun k hk => hX.block k hk, (Ah.out.h3.ll (c := 1) (S := fun k => k < W0.heap.size) (by decide) (fun z hz => (HH.out z hz).2.1) fun k _ h => h).keep fun k hk => hX.block k hk, (Ah.out.h3.ll (c := 2) (S := fun k => k < W0.heap.size) (by decide) (fun z hz => (HH.out z hz).2.2) fun k _ h => h).keep fun k hk => hX.block k hk, Ah.out.ff.keep (hX.block _ Ah.out.ff.lt)⟩
 have AJ : Hid (∀ X, Below W0.heap.size W0 X → Ix X T F n rl tm rv fm fa ra ba fc rc bc) := hide fun X hX => by
  obtain ⟨a, b, c, d⟩ := AC.out X hX
  exact ⟨Aw.out X hX, a.sub fun k hk => Nat.lt_of_lt_of_le hk hX.size, b.sub fun k hk => Nat.lt_of_lt_of_le hk hX.size, c.sub fun k hk => Nat.lt_of_lt_of_le hk hX.size, d⟩
 have Ax : Hid (∀ X, Below W0.heap.size W0 X → X.cell? ⟨ib, 0, none⟩ = some (.int .i64 T.lits) ∧ X.cell? ⟨ib, 1, none⟩ = some (.slice fa T.foes.length fc) ∧ X.cell? ⟨ib, 2, none⟩ = some (.slice ra T.rules.length rc) ∧ X.cell? ⟨ib, 3, none⟩ = some (.slice ba T.beats.length bc) ∧ X.cell? ⟨ib, 4, none⟩ = some (sl rl n) ∧ X.cell? ⟨ib, 5, none⟩ = some (sl tm n) ∧ X.cell? ⟨ib, 6, none⟩ = some (sl rv n) ∧ X.cell? ⟨ib, 7, none⟩ = some (sl fm n)) := hide fun X hX => by
  have hf := Au.out.keep (hX.block _ Au.out.lt)
  exact ⟨hf.get (i := 0) rfl, hf.get (i := 1) rfl, hf.get (i := 2) rfl, hf.get (i := 3) rfl, hf.get (i := 4) rfl, hf.get (i := 5) rfl, hf.get (i := 6) rfl, hf.get (i := 7) rfl⟩
 have An : Hid (∀ X, Below W0.heap.size W0 X → X.cell? ⟨tb, 0, none⟩ = some (.int .i64 T.lits) ∧ X.cell? ⟨tb, 1, none⟩ = some (.slice fa T.foes.length fc) ∧ X.cell? ⟨tb, 2, none⟩ = some (.slice ra T.rules.length rc) ∧ X.cell? ⟨tb, 3, none⟩ = some (.slice ba T.beats.length bc)) := hide fun X hX => by
  have hf := Aj.out.keep (hX.block _ Aj.out.lt)
  exact ⟨hf.get (i := 0) rfl, hf.get (i := 1) rfl, hf.get (i := 2) rfl, hf.get (i := 3) rfl⟩
 have Ab : Hid (jl [some 14, some 15, some 16, some 17, some 18, some 19, some 20, some 21, some 22, some 23, some 24, some 25, some 26, some 27, some 6] [(5, ae ib), (2, ae tb)] = true) := hide rfl
 have AI := hide AH
 clear AH
 have AL : Hid (∀ args w', (callFunc 28 args).run Tryz.prog w' = .ok (.enter 28 args) w') := hide (enters_go Tryz.func28 (by kernel_rfl) (by kernel_rfl))
 have Bw : Hid (∀ args w', (callFunc 32 args).run Tryz.prog w' = .ok (.enter 32 args) w') := hide (enters_go Tryz.func32 (by kernel_rfl) (by kernel_rfl))
 have Bb : Hid (∀ args w', (callFunc 33 args).run Tryz.prog w' = .ok (.enter 33 args) w') := hide (enters_go Tryz.func33 (by kernel_rfl) (by kernel_rfl))
 refine dQ jX (Jg [some 14, some 15, some 16, some 17, some 18, some 19, some 20, some 21, some 22, some 23, some 24, some 25, some 26, some 27, some 6] [(5, ae ib), (2, ae tb)] (sd T F fa ra ba fc rc bc rl tm rv fm tb n W0.heap.size) W0) (by kernel_rfl) (by kernel_rfl) ?_ (ew ⟨?_, ?_, ?_, ?_, ?_, ?_, ?_, ?_, ?_, ?_, ?_, ?_, ?_, ?_, ?_, trivial⟩) ?_ ?_
 · have := BE.out
   show Jg _ _ _ W0 _ _ ((w1.alloc _).drew)
   rw [this]
   exact Jg.start.2 fun p hp => by simp at hp; rcases hp with rfl | rfl <;> rfl
 · intro ρ X L hc hf hL hd Aa hJ
   have k5 : ρ (.tmp 5) = ae ib := hJ.base (5, ae ib) (by simp)
   obtain ⟨c0, c1, c2, c3, c4, c5, c6, c7⟩ := Ax.out X hJ.low
   refine ah (v := .agg (du T fa ra ba fc rc bc rl tm rv fm n).toArray) (w' := X) ?_ (hJ.put Ab.out de (i := 0) (d := 14) rfl (Below.refl _ _) (rfl))
   clear hd Aa hJ hL
   go_simp
 · intro ρ X L hc hf hL hd Aa hJ
   have k2 : ρ (.tmp 2) = ae tb := hJ.base (2, ae tb) (by simp)
   obtain ⟨c0, c1, c2, c3⟩ := An.out X hJ.low
   refine ah (v := .agg #[.int .i64 T.lits, .slice fa T.foes.length fc, .slice ra T.rules.length rc, .slice ba T.beats.length bc]) (w' := X) ?_ (hJ.put Ab.out de (i := 1) (d := 15) rfl (Below.refl _ _) (rfl))
   clear hd Aa hJ hL
   go_simp
 · intro ρ X L hc hf hL hd Aa hJ
   obtain ⟨_, _, _, e1⟩ := hJ.get (i := 1) (d := 15) rfl (hd ⟨1, .data⟩ (by simp) rfl)
   have Ci : ρ (.tmp 15) = tv T fa fc ra rc ba bc := e1
   clear e1
   have hC := ly (Aw.out X hJ.low) HP.out
   have he := AL.out #[tv T fa fc ra rc ba bc, .func (.func 29) #[] #[], .func (.func 29) #[] #[]] X
   refine ij (f := 28) (args := #[tv T fa fc ra rc ba bc, .func (.func 29) #[] #[], .func (.func 29) #[] #[]]) (w' := X) ?_ hC ?_
   · clear hd Aa hJ hL hC
     go_simp
   · rintro _ Y ⟨q, us, ms, rr, op, vs, H, rfl, hn, hu, hb⟩
     exact ⟨_, rfl, hJ.put Ab.out de (i := 2) (d := 16) rfl hb (⟨us, ms, rr, op, rfl, Wt.of (b := false) hn hu⟩)⟩
 · intro ρ X L hc hf hL hd Aa hJ
   have k2 : ρ (.tmp 2) = ae tb := hJ.base (2, ae tb) (by simp)
   obtain ⟨c0, c1, c2, c3⟩ := An.out X hJ.low
   refine ah (v := .agg #[.int .i64 T.lits, .slice fa T.foes.length fc, .slice ra T.rules.length rc, .slice ba T.beats.length bc]) (w' := X) ?_ (hJ.put Ab.out de (i := 3) (d := 17) rfl (Below.refl _ _) (rfl))
   clear hd Aa hJ hL
   go_simp
 · intro ρ X L hc hf hL hd Aa hJ
   obtain ⟨_, _, _, e1⟩ := hJ.get (i := 3) (d := 17) rfl (hd ⟨3, .data⟩ (by simp) rfl)
   have BZ : ρ (.tmp 17) = tv T fa fc ra rc ba bc := e1
   clear e1
   have hC := nH (Aw.out X hJ.low) HP.out
   have he := AL.out #[tv T fa fc ra rc ba bc, .func (.func 30) #[] #[], .func (.func 31) #[] #[]] X
   refine ij (f := 28) (args := #[tv T fa fc ra rc ba bc, .func (.func 30) #[] #[], .func (.func 31) #[] #[]]) (w' := X) ?_ hC ?_
   · clear hd Aa hJ hL hC
     go_simp
   · rintro _ Y ⟨q, us, ms, rr, op, vs, H, rfl, hn, hu, hb⟩
     exact ⟨_, rfl, hJ.put Ab.out de (i := 4) (d := 18) rfl hb (⟨us, ms, rr, op, rfl, Wt.of (b := true) hn hu⟩)⟩
 · intro ρ X L hc hf hL hd Aa hJ
   have k5 : ρ (.tmp 5) = ae ib := hJ.base (5, ae ib) (by simp)
   obtain ⟨c0, c1, c2, c3, c4, c5, c6, c7⟩ := Ax.out X hJ.low
   refine ah (v := .agg (du T fa ra ba fc rc bc rl tm rv fm n).toArray) (w' := X) ?_ (hJ.put Ab.out de (i := 5) (d := 19) rfl (Below.refl _ _) (rfl))
   clear hd Aa hJ hL
   go_simp
 · intro ρ X L hc hf hL hd Aa hJ
   obtain ⟨_, _, _, e1⟩ := hJ.get (i := 5) (d := 19) rfl (hd ⟨5, .data⟩ (by simp) rfl)
   have Cj : ρ (.tmp 19) = .agg (du T fa ra ba fc rc bc rl tm rv fm n).toArray := e1
   clear e1
   have hC := lJ (AJ.out X hJ.low) HP.out
   have he := Bw.out #[.agg (du T fa ra ba fc rc bc rl tm rv fm n).toArray] X
   refine ij (f := 32) (args := #[.agg (du T fa ra ba fc rc bc rl tm rv fm n).toArray]) (w' := X) ?_ hC ?_
   · clear hd Aa hJ hL hC
     go_simp
   · rintro _ Y ⟨cl, cr, rfl, hz, hb⟩
     exact ⟨_, rfl, hJ.put Ab.out de (i := 6) (d := 20) rfl hb (⟨cl, cr, rfl, hz, fun s hs => (hz.cs s hs).lt⟩)⟩
 · intro ρ X L hc hf hL hd Aa hJ
   have k5 : ρ (.tmp 5) = ae ib := hJ.base (5, ae ib) (by simp)
   obtain ⟨c0, c1, c2, c3, c4, c5, c6, c7⟩ := Ax.out X hJ.low
   refine ah (v := .agg (du T fa ra ba fc rc bc rl tm rv fm n).toArray) (w' := X) ?_ (hJ.put Ab.out de (i := 7) (d := 21) rfl (Below.refl _ _) (rfl))
   clear hd Aa hJ hL
   go_simp
 · intro ρ X L hc hf hL hd Aa hJ
   obtain ⟨_, _, _, e1⟩ := hJ.get (i := 7) (d := 21) rfl (hd ⟨7, .data⟩ (by simp) rfl)
   have Cl : ρ (.tmp 21) = .agg (du T fa ra ba fc rc bc rl tm rv fm n).toArray := e1
   clear e1
   have hC := kD (AJ.out X hJ.low) HP.out
   have he := Bb.out #[.agg (du T fa ra ba fc rc bc rl tm rv fm n).toArray] X
   refine ij (f := 33) (args := #[.agg (du T fa ra ba fc rc bc rl tm rv fm n).toArray]) (w' := X) ?_ hC ?_
   · clear hd Aa hJ hL hC
     go_simp
   · rintro _ Y ⟨g, rfl, hg, hl, hb⟩
     exact ⟨_, rfl, hJ.put Ab.out de (i := 8) (d := 22) rfl hb (⟨g, rfl, hg, hl, hg.lt⟩)⟩
 · intro ρ X L hc hf hL hd Aa hJ
   have k2 : ρ (.tmp 2) = ae tb := hJ.base (2, ae tb) (by simp)
   obtain ⟨c0, c1, c2, c3⟩ := An.out X hJ.low
   refine ah (v := ae tb) (w' := X) ?_ (hJ.put Ab.out de (i := 9) (d := 23) rfl (Below.refl _ _) (rfl))
   clear hd Aa hJ hL
   go_simp
 · intro ρ X L hc hf hL hd Aa hJ
   obtain ⟨_, _, _, e1⟩ := hJ.get (i := 9) (d := 23) rfl (hd ⟨9, .data⟩ (by simp) rfl)
   have Ck : ρ (.tmp 23) = ae tb := e1
   clear e1
   obtain ⟨c0, c1, c2, c3⟩ := An.out X hJ.low
   refine ah (v := .int .i64 T.lits) (w' := X) ?_ (hJ.put Ab.out de (i := 10) (d := 24) rfl (Below.refl _ _) (rfl))
   clear hd Aa hJ hL
   go_simp
 · intro ρ X L hc hf hL hd Aa hJ
   obtain ⟨_, _, _, e1⟩ := hJ.get (i := 10) (d := 24) rfl (hd ⟨10, .data⟩ (by simp) rfl)
   have Cg : ρ (.tmp 24) = .int .i64 T.lits := e1
   clear e1
   have Cc := Bt X
   refine ah (v := sl X.heap.size n) (w' := X.alloc (.cells (Array.replicate n (.int .u8 0)) 42)) ?_ (hJ.put Ab.out de (i := 11) (d := 25) rfl (aa X _) (⟨X.heap.size, rfl, by unfold Fx; rw [heap_alloc_new, rn], Nat.le_refl _, by simp⟩))
   clear hd Aa hJ hL
   go_simp
 · intro ρ X L hc hf hL hd Aa hJ
   obtain ⟨lo, hi, Ag, Af⟩ := hJ.at_
   have l0 : L 0 = true := hd ⟨0, .data⟩ (by simp) rfl
   have l2 : L 2 = true := hd ⟨2, .data⟩ (by simp) rfl
   have l4 : L 4 = true := hd ⟨4, .data⟩ (by simp) rfl
   have l6 : L 6 = true := hd ⟨6, .data⟩ (by simp) rfl
   have l8 : L 8 = true := hd ⟨8, .data⟩ (by simp) rfl
   have AD : L 11 = true := hd ⟨11, .data⟩ (by simp) rfl
   obtain ⟨-, -, -, e0⟩ := Ag 0 14 rfl l0
   obtain ⟨p2, -, m2, u0, s0, r0, o0, e2, w2⟩ := Ag 2 16 rfl l2
   obtain ⟨p4, -, m4, u1, s1, r1, o1, e4, w4⟩ := Ag 4 18 rfl l4
   obtain ⟨p6, -, -, cl, cr, e6, z6, h6⟩ := Ag 6 20 rfl l6
   obtain ⟨p8, -, -, ob, e8, f8, a8, b8⟩ := Ag 8 22 rfl l8
   obtain ⟨BO, -, -, mq, BA, Bv, BH, BF⟩ := Ag 11 25 rfl AD
   have Ap := Lp.of (K := tb) (fa := fa) (ra := ra) (ba := ba) (fc := fc) (rc := rc) (bc := bc) (rl := rl) (tm := tm) (rv := rv) (fm := fm) AI.out w2 w4 z6 h6 f8 ⟨a8, b8⟩ Bv ⟨BH, BF⟩ p2 p4 p6 p8 BO m2 m4 (Af 2 4 16 18 rfl rfl (by decide) l2 l4) (Af 2 6 16 20 rfl rfl (by decide) l2 l6) (Af 2 8 16 22 rfl rfl (by decide) l2 l8) (Af 2 11 16 25 rfl rfl (by decide) l2 AD) (Af 4 6 18 20 rfl rfl (by decide) l4 l6) (Af 4 8 18 22 rfl rfl (by decide) l4 l8) (Af 4 11 18 25 rfl rfl (by decide) l4 AD)
   have Ce : ρ (.tmp 14) = .agg #[.int .i64 T.lits, .slice fa T.foes.length fc, .slice ra T.rules.length rc, .slice ba T.beats.length bc, sl rl n, sl tm n, sl rv n, sl fm n] := e0
   have Cb : ρ (.tmp 16) = .agg #[sl u0 n, sl s0 T.rules.length, sl r0 T.rules.length, sl o0 n] := e2
   have BY : ρ (.tmp 18) = .agg #[sl u1 n, sl s1 T.rules.length, sl r1 T.rules.length, sl o1 n] := e4
   have Cn : ρ (.tmp 20) = sl cl T.rules.length := e6
   have Ca : ρ (.tmp 22) = sl ob n := e8
   have Cd : ρ (.tmp 25) = sl mq n := BA
   refine ah (v := .agg #[.int .i64 T.lits, .slice fa T.foes.length fc, .slice ra T.rules.length rc, .slice ba T.beats.length bc, sl rl n, sl tm n, sl rv n, sl fm n, sl u0 n, sl s0 T.rules.length, sl r0 T.rules.length, sl o0 n, sl u1 n, sl s1 T.rules.length, sl r1 T.rules.length, sl o1 n, sl cl T.rules.length, sl ob n, sl mq n, .slice none 0 0, .int .i64 0, .int .i64 0]) (w' := X) ?_ (hJ.put Ab.out de (i := 12) (d := 26) rfl (Below.refl _ _) ⟨u0, s0, r0, o0, u1, s1, r1, o1, cl, ob, mq, cr, rfl, Ap⟩)
   clear hd Aa hJ hL Ag Af Ap e0 e2 e4 e6 e8 BA w2 w4 z6 h6 f8 Bv
   go_simp
 · intro ρ X L hc hf hL hd Aa hJ
   obtain ⟨_, _, _, u0, s0, r0, o0, u1, s1, r1, o1, cl, ob, mq, cr, e1, Ap⟩ := hJ.get (i := 12) (d := 26) rfl (hd ⟨12, .data⟩ (by simp) rfl)
   have BW : ρ (.tmp 26) = .agg #[.int .i64 T.lits, .slice fa T.foes.length fc, .slice ra T.rules.length rc, .slice ba T.beats.length bc, sl rl n, sl tm n, sl rv n, sl fm n, sl u0 n, sl s0 T.rules.length, sl r0 T.rules.length, sl o0 n, sl u1 n, sl s1 T.rules.length, sl r1 T.rules.length, sl o1 n, sl cl T.rules.length, sl ob n, sl mq n, .slice none 0 0, .int .i64 0, .int .i64 0] := e1
   refine ah (v := ae X.heap.size) (w' := X.alloc (.cells #[.int .i64 T.lits, .slice fa T.foes.length fc, .slice ra T.rules.length rc, .slice ba T.beats.length bc, sl rl n, sl tm n, sl rv n, sl fm n, sl u0 n, sl s0 T.rules.length, sl r0 T.rules.length, sl o0 n, sl u1 n, sl s1 T.rules.length, sl r1 T.rules.length, sl o1 n, sl cl T.rules.length, sl ob n, sl mq n, .slice none 0 0, .int .i64 0, .int .i64 0] 52)) ?_ (hJ.put Ab.out de (i := 13) (d := 27) rfl (aa X _) ⟨X.heap.size, u0, s0, r0, o0, u1, s1, r1, o1, cl, ob, mq, cr, rfl, hJ.low.size, heap_alloc_new X _, Ap.key.keep (aa X _)⟩)
   clear hd Aa hJ hL e1 Ap
   go_simp
 · intro ρ X L hc hf hL hd Aa hJ
   obtain ⟨_, _, _, K, u0, s0, r0, o0, u1, s1, r1, o1, cl, ob, mq, cr, e1, h1, h2, h3⟩ := hJ.get (i := 13) (d := 27) rfl (hd ⟨13, .data⟩ (by simp) rfl)
   have Cq : ρ (.tmp 27) = ae K := e1
   refine ah (v := ae K) (w' := X) ?_ (hJ.put Ab.out de (i := 14) (d := 6) rfl (Below.refl _ _) ⟨K, u0, s0, r0, o0, u1, s1, r1, o1, cl, ob, mq, cr, rfl, h1, h2, h3⟩)
   clear hd Aa hJ hL e1 h2 h3
   go_simp
 · intro c a' w' _ hE
   exact hE.elim
 · rintro ⟨Ac, df⟩ w' AT BB ⟨L, hL, hJ⟩ AQ
   simp only at BB AT
   subst BB
   obtain ⟨_, _, _, K, u0, s0, r0, o0, u1, s1, r1, o1, cl, ob, mq, cr, e6, h1, h2, h3⟩ := hJ.get (i := 14) (d := 6) rfl (hL 14 (by decide))
   have e6 : Ac.getD 6 undef = ae K := e6
   have Am := fQ 14 27 6 (by kernel_rfl) AT AQ
   simp only [zs, Nat.reduceLT, Nat.reduceAdd, true_or, or_true, or_self, false_and, ne_eq, Nat.reduceEqDiff, not_false_eq_true, not_true_eq_false, and_self, and_false, if_true, if_false, e6] at Am
   rw [Am]
   obtain ⟨ia, it, iv, AK⟩ := AC.out w' hJ.low
   obtain ⟨A, hA⟩ : ∃ A : Ad, mE K fa ra ba fc rc bc rl tm rv fm u0 s0 r0 o0 u1 s1 r1 o1 cl ob mq cr = A := ⟨_, rfl⟩
   have Ar : A.K = K := by rw [← hA]
   have Ba : En w.heap.size (Sk A T.rules.length w') A T F n (eE T F n) (.slice none 0 0) w' := by
    have BI : Iy w.heap.size W0.heap.size A T F n w' := by
     rw [← hA]
     exact ⟨TR.keep (AS.out w' hJ.low).block HT.out, ia, it, iv, AK, Ah.out.ff.lt⟩
    rw [hA] at h2 h3
    exact En.of HP.out h3 BI Av.out.size (by rw [Ar]; exact h1) (by rw [Ar]; exact h2)
   have HE := hide Ba
   have Bk := hide (AS.out w' hJ.low)
   have Bz := hide (Aj.out.keep (hJ.low.block _ Aj.out.lt))
   have AR : Hid (∀ k, k < W0.heap.size → Sk A T.rules.length w' k) := hide fun k hk => ⟨Nat.lt_of_lt_of_le hk hJ.low.size, fun e => (by rw [Ar] at e; omega), fun hm => (by rw [hA] at h3; have := h3.lo k hm; omega)⟩
   rw [← Ar]
   clear Am hJ hL AQ AT e6 h2 h3 Ba ia it iv AK hA Ar Ax An Ab AJ AC Aw Ah AL Bw Bb Bt Au Aj
   generalize Ac.getD 14 undef = x14
   generalize Ac.getD 15 undef = x15
   generalize Ac.getD 16 undef = x16
   generalize Ac.getD 17 undef = x17
   generalize Ac.getD 18 undef = x18
   generalize Ac.getD 19 undef = x19
   generalize Ac.getD 20 undef = x20
   generalize Ac.getD 21 undef = x21
   generalize Ac.getD 22 undef = x22
   generalize Ac.getD 23 undef = x23
   generalize Ac.getD 24 undef = x24
   generalize Ac.getD 25 undef = x25
   generalize Ac.getD 26 undef = x26
   generalize Ac.getD 27 undef = x27
   have HSl : Hid (∀ k, k < W0.heap.size → Sk A T.rules.length w' k) := hide AR.out
   clear h1 AR
   have BS : Hid (Sk A T.rules.length w' tb) := hide (HSl.out tb AI.out)
   have BQ : Hid (∀ k, k < w.heap.size → Sk A T.rules.length w' k) := hide fun k hk => HSl.out k (Nat.lt_of_lt_of_le hk Av.out.size)
   clear HSl
   generalize Sk A T.rules.length w' = S at *
   have HBf : Hid (∀ X, Fr (fun k => ¬ S k) w' X → Below w.heap.size w X) := hide fun X hX => Bk.out.trans (hX.below fun k hk => ⟨Nat.lt_of_lt_of_le hk Bk.out.size, fun hn => hn (BQ.out k hk)⟩)
   have HXf : Hid (∀ X, Fr (fun k => ¬ S k) w' X → Fx tb 25 [.int .i64 T.lits, .slice fa T.foes.length fc, .slice ra T.rules.length rc, .slice ba T.beats.length bc] X) := hide fun X hX => Bz.out.keep (hX.block _ Bz.out.lt fun hn => hn BS.out)
   have Cm := HF.out.lim
   go_wp2_with fail
   go_loopw [30] (fun x wr => ∃ k : Nat, k ≤ F.length ∧ x = .int .i64 k ∧ Hid (En w.heap.size S A T F n (dP (F.take k) (eE T F n)) (.slice none 0 0) wr) ∧ Hid (Fr (fun k => ¬ S k) w' wr)) (fun x _ => F.length - (intOf x).toNat)
   case atStart => exact ⟨0, by omega, rfl, hide (by rw [List.take_zero, pQ]; exact HE.out), hide (Fr.refl _ _)⟩
   case round =>
    obtain ⟨k, hk, rfl, HEr, HFr⟩ := hrel
    by_cases hlt : k < F.length
    · obtain ⟨x, hx⟩ := ap hlt
      obtain ⟨x0, x1⟩ := HP.out.fact x (List.mem_of_getElem? hx)
      obtain ⟨xm, rfl⟩ := Int.eq_ofNat_of_zero_le x0
      have Bx : xm < n := by omega
      obtain ⟨ge, oe, rfl, cx⟩ := ((Ints.go (HBf.out wr HFr.out) HF.out).at1).get hx
      have Cp := HEr.out.bx.get (i := 11) rfl
      have co := (HEr.out.op false).get (aX Bx)
      have zo := (HEr.out.op false).frz xm
      have h2 := HEr.out.setOp false Bx 0
      have BM : Hid (En w.heap.size S A T F n (dP (F.take (k + 1)) (eE T F n)) (.slice none 0 0) (wr.setCell ⟨A.op false, xm, none⟩ (.int .i64 0))) := hide (by rw [cP hx, pa]; exact h2.1)
      have BJ := hide (HFr.out.trans h2.2)
      generalize (dP (F.take k) (eE T F n)).op false xm = xo at co
      clear hx x0 x1 h2 HEr HFr
      go_wp2_with fail
      go_roundw
      case rel => exact ⟨k + 1, by omega, by go_num, BM, BJ⟩
      case measure => simp [intOf]; omega
    · have Bj : Hid (Eg w.heap.size S A T F n (aS T F) wr) := hide (by
       have h3 := HEr.out
       rw [List.take_of_length_le (by omega)] at h3
       exact ⟨_, h3.congr Az.out.ms (fun _ _ _ => rfl) Az.out.op (fun s hs p hp => ⟨Az.out.cd s hs p hp, rfl⟩) Az.out.ob rfl rfl rfl rfl⟩)
      have AG := hide HFr.out
      clear HEr HFr HE
      have c2 := (HXf.out wr AG.out).get (i := 2) rfl
      go_wp2_with fail
      clear c2
      go_loopw [45] (fun x wr => ∃ k : Nat, k ≤ T.rules.length ∧ x = .int .i64 k ∧ Hid (Eg w.heap.size S A T F n (bareE T k (aS T F)) wr) ∧ Hid (Fr (fun k => ¬ S k) w' wr)) (fun x _ => T.rules.length - (intOf x).toNat)
      case atStart => exact ⟨0, by omega, rfl, Bj, AG⟩
      case round =>
       clear Bj AG
       rename World => wr2
       obtain ⟨k, hk, rfl, HEr, HFr⟩ := hrel
       by_cases hlt : k < T.rules.length
       · have As : Hid (bareE T (k + 1) (aS T F) = eV T (bareE T k (aS T F)) k) := hide ja
         generalize bareE T k (aS T F) = e1 at HEr As
         obtain ⟨r, hr⟩ := ap hlt
         obtain ⟨h0, h1⟩ := HP.out.head r (List.mem_of_getElem? hr)
         obtain ⟨hm, Bp⟩ := Int.eq_ofNat_of_zero_le h0
         have Am : aO T k = !decide (r.kind = 3) := by unfold aO; rw [Int.toNat_natCast, hr]; rfl
         have Bg : aB T k = r.body := by unfold aB; rw [Int.toNat_natCast, hr]; rfl
         obtain ⟨gr, go, bd, bp, rfl, BD, x0, x1, x2, -, Bf, AV⟩ := dx (TR.keep (HBf.out wr2 HFr.out).block HT.out).rules hr
         rw [Bp] at x1
         have AN := aa wr2 (.cells #[.int .i64 r.kind, .int .i64 hm, .slice bd r.body.length bp] 36)
         have HQ : Hid (Fx wr2.heap.size 36 [.int .i64 r.kind, .int .i64 hm, .slice bd r.body.length bp] (wr2.alloc (.cells #[.int .i64 r.kind, .int .i64 hm, .slice bd r.body.length bp] 36))) := hide (heap_alloc_new wr2 _)
         have HEq := hide (HEr.out.go AN)
         have HFq := hide (HFr.out.trans (Fr.of_below AN))
         have Bn := hide Am
         have Br := hide Bg
         have HL := hide hlt
         clear hr h0 h1 Bp AN AV HEr HFr BD Am Bg
         go_upto_region 11 with fail
         clear x0 x1 x2
         generalize wr2.alloc (.cells #[.int .i64 r.kind, .int .i64 hm, .slice bd r.body.length bp] 36) = wq at *
         obtain ⟨qr, Bq⟩ : ∃ qr, wr2.heap.size = qr := ⟨_, rfl⟩
         rw [Bq] at HQ ⊢
         clear Bq
         have q0 := HQ.out.get (i := 0) rfl
         have q1 := HQ.out.get (i := 1) rfl
         have q2 := HQ.out.get (i := 2) rfl
         have CT := hide (dL (w := wq) (k := r.kind) (h := (hm : Int)) (v := .slice bd r.body.length bp))
         have AA : Hid (∀ X, Below wq.heap.size wq X → X.cell? ⟨qr, 2, none⟩ = some (.slice bd r.body.length bp)) := hide fun X hX => (HQ.out.keep (hX.block _ HQ.out.lt)).get (i := 2) rfl
         cases htk : decide (r.kind = 3) with
         | true =>
          have Ae : Hid (eV T e1 k = e1) := hide (by unfold eV; rw [Bn.out, htk]; rfl)
          rw [htk] at CT
          clear htk
          go_wp2_with (go_at_call 31; refine CT.out.mono ?_; rintro _ w5 ⟨rfl, hb⟩; have Ai := hide hb; clear hb)
          go_roundw
          case rel => exact ⟨k + 1, by have := HL.out; omega, by go_num, hide (by rw [As.out, Ae.out]; exact HEq.out.go Ai.out), hide (HFq.out.trans (Fr.of_below Ai.out))⟩
          case measure => have := HL.out; simp [intOf]; omega
         | false =>
          have AO : Hid (aO T k = true) := hide (by rw [Bn.out, htk]; rfl)
          rw [htk] at CT
          clear htk
          by_cases he : r.body.length = 0
          · have Aq : r.body.isEmpty = true := by rw [List.isEmpty_iff]; exact List.eq_nil_of_length_eq_zero he
            have Ae : Hid (eV T e1 k = defendE T e1 k) := hide (by unfold eV; rw [AO.out, Br.out, Aq]; rfl)
            have AU : ((r.body.length : Int) == 0) = true := by simpa using he
            clear Aq
            rw [he] at CT q2 AA Bf AU
            go_wp2_with (first | (go_at_call 31; refine CT.out.mono ?_; rintro _ w5 ⟨rfl, hb⟩; have Ai := hide hb; have k2 := AA.out w5 hb; have CD := hide (lp (HEq.out.go hb) HL.out AO.out); clear hb) | (go_at_call 34; refine CD.out.mono ?_; rintro _ w6 ⟨rfl, AZ, AX⟩; have BG := hide AZ; have BP := hide AX; clear AZ AX))
            go_roundw
            case rel => exact ⟨k + 1, by have := HL.out; omega, by go_num, hide (by rw [As.out, Ae.out]; exact BG.out), hide ((HFq.out.trans (Fr.of_below Ai.out)).trans BP.out)⟩
            case measure => have := HL.out; simp [intOf]; omega
          · have Aq : r.body.isEmpty = false := by cases hb : r.body with
             | nil => rw [hb] at he; simp at he
             | cons _ _ => rfl
            have Ae : Hid (eV T e1 k = e1) := hide (by unfold eV; rw [AO.out, Br.out, Aq]; rfl)
            have AU : ((r.body.length : Int) == 0) = false := by simpa using he
            have BK : (r.body.length == 0) = false := by simpa using he
            obtain ⟨bl, BC⟩ : ∃ bl, r.body.length = bl := ⟨_, rfl⟩
            rw [BC] at AA he AU BK CT q2 Bf
            clear Aq
            go_wp2_with (go_at_call 31; refine CT.out.mono ?_; rintro _ w5 ⟨rfl, hb⟩; have Ai := hide hb; have k2 := AA.out w5 hb; clear hb)
            go_roundw
            case rel => exact ⟨k + 1, by have := HL.out; omega, by go_num, hide (by rw [As.out, Ae.out]; exact HEq.out.go Ai.out), hide (HFq.out.trans (Fr.of_below Ai.out))⟩
            case measure => have := HL.out; simp [intOf]; omega
       · have By : k = T.rules.length := by omega
         have CB := hide (qh HEr.out)
         have Bh : Hid (iZ T F n = { beginE T F n (bareE T k (aS T F)) with up := 0 }) := hide (by rw [By]; rfl)
         clear By
         generalize beginE T F n (bareE T k (aS T F)) = e3 at CB Bh
         clear HEr
         go_upto_region 15 with (go_at_call 35; refine CB.out.mono ?_; rintro _ w7 ⟨rfl, Bd, Bs⟩; have Bo := hide Bd; have AY := hide (HFr.out.trans Bs); clear Bd Bs)
         obtain ⟨BX, At⟩ := Bo.out
         have BL := At.bx.get (i := 21) rfl
         have Ch := At.bx.frz 21
         have h8 := At.setUp 0
         have BR : Hid (Eg w.heap.size S A T F n (iZ T F n) (w7.setCell ⟨A.K, 21, none⟩ (.int .i64 0))) := hide (by rw [Bh.out]; exact ⟨_, h8.1⟩)
         have BN := hide (AY.out.trans h8.2)
         generalize e3.up = u3 at BL
         clear At h8 Bo AY CB HFr
         go_wp2_with fail
         go_ret
         exact ⟨A, S, rfl, BR.out, HBf.out _ BN.out⟩
end Go.Proofs.YthifoamnmhlghaaGreat.Fa
