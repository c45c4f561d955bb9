import Derived.Test.YtmlhcncagdfjfaaGreatLnA
import Derived.Test.YtmlhcncagdfjfaaGreatDrM
set_option maxRecDepth 100000
set_option maxHeartbeats 25600000
namespace Go.Proofs.YtmlhcncagdfjfaaGreat.De
open Go.RowKit Fa Go.Shelf Rg
open Go.ChangeMaps (setBlock heap_setBlock_same heap_setBlock_other)
attribute [local go_sem] Oper.semAt_some
def oV (b7 mb q j k : Nat) (i : Nat) (v : Value) (_ : World) (_ _ : Nat) : Prop := match i with
 | 0 => v = .map (some mb)
 | 1 => v = .pointer (some ⟨b7, 1, none⟩)
 | 2 => v = .int .i64 (q : Int)
 | 3 => v = .pointer (some ⟨b7, 0, none⟩)
 | 4 => v = .int .i64 (j : Int)
 | 5 => v = pk q j
 | 6 => v = .int .i64 (k : Int)
 | _ => True
theorem bE {b7 mb q j k : Nat} : ∀ i v W W' lo hi, oV b7 mb q j k i v W lo hi → hi ≤ W.heap.size → Below W.heap.size W W' → oV b7 mb q j k i v W' lo hi := fun _ _ _ _ _ _ h _ _ => h
def su (mb : Nat) (V : Nat → Nat → Int) (c : Nat) (W0 : World) (_ : Nat → Value) (W : World) : Prop := Fr (fun g => g = mb) W0 W ∧ ∃ es clock, W.heap[mb]? = some (.map es clock) ∧ Mi V c es clock
theorem rq {w : World} {b clock : Nat} {es : Array MapEntry} {o : Obj} (hb : w.heap[b]? = some (.map es clock)) : Fr (fun g => g = b) w (setBlock w b o) := by
 refine ⟨rfl, rfl, rfl, by rw [dw]; exact Nat.le_refl _, fun i hi hz => heap_setBlock_other hb _ (fun e => hz e)⟩
section
variable {S : Nat → Prop} {N0 : Nat} {K : cC} {T : Th} {w : World} {l : List StM} {la : Option Addr} {lc : Nat}
theorem vk (hT : Wt T K.n) (hX : Xr S N0 K T w) (hl : Sts w.heap.size w l la) (hl0 : 0 < l.length) (hll : l.length ≤ 65536) (hls : ∀ s ∈ l, ∃ q j : Nat, s.lit = (q : Int) ∧ s.tag = (j : Int) ∧ q < K.n ∧ 1 ≤ j ∧ j ≤ 4) (hlc : ∀ s ∈ l, s.ch.length ≤ 1048576) :
    Calls Tryz.prog 57 #[aa K.q, .slice la l.length lc] w fun e w' => ∃ v, e = .returned v ∧ Gy 32 5 i5 w.heap.size (jP T l) v w' ∧ Below w.heap.size w w' := by
 have DY : Tryz.prog.follows .mixedOrders = true := by kernel_rfl
 have Ec := @run_makeMap Tryz.prog
 obtain ⟨iB, DU, Dh, DN, Dl⟩ := info_parts jt
 obtain ⟨s, Cu, Cq⟩ := zu hl
 have Bk := hide Cu
 have Bn := hide Cq
 have HL := hide hl
 have HT := hide hT
 have HX := hide hX
 have BR := hide hls
 have DA := hide hlc
 obtain ⟨m, hm⟩ : ∃ m, l.length = m := ⟨_, rfl⟩
 have HM := hide hm
 have Dw := hT.n4
 rw [hm] at hl0 hll ⊢
 have En : ∀ W, (Instr.makeSlice 106 (.int .i64 (m : Int)) (.int .i64 (m : Int))).run Tryz.prog W = .ok (ay W.heap.size m) (W.alloc (.cells (Array.replicate m (.bool false)) 4)) := fun W => aH (P := Tryz.prog) Tryz.underlying106 DU Dh DN rfl m (by rw [Dl]; omega) (by unfold maxLen; omega) W
 clear hT hX hl hls Cu Cq hm hlc
 have hB : Below w.heap.size w (((w.alloc (.cells #[aa K.q] 81)).alloc (.map #[] 0)).alloc (.cells #[.map (some (w.heap.size + 1))] 148)) := ((ae w _).trans ((ae _ _).mono (by simp))).trans ((ae _ _).mono (by simp; omega))
 have h0 : Fx w.heap.size 81 [aa K.q] (((w.alloc (.cells #[aa K.q] 81)).alloc (.map #[] 0)).alloc (.cells #[.map (some (w.heap.size + 1))] 148)) := by
  have e1 : (w.alloc (.cells #[aa K.q] 81)).heap[w.heap.size]? = some (.cells #[aa K.q] 81 (0, 0)) := heap_alloc_new w _
  exact (Below.heap_alloc _ _ _ (by simp; omega)).trans ((Below.heap_alloc _ _ _ (by simp)).trans e1)
 have h1 : (((w.alloc (.cells #[aa K.q] 81)).alloc (.map #[] 0)).alloc (.cells #[.map (some (w.heap.size + 1))] 148)).heap[w.heap.size + 1]? = some (.map #[] 0) := by
  have e1 := World.alloc_heap_new (w.alloc (.cells #[aa K.q] 81)) (.map #[] 0)
  rw [World.size_alloc] at e1
  exact (Below.heap_alloc _ _ _ (by simp)).trans e1
 have h5 : Fx (w.heap.size + 1 + 1) 148 [.map (some (w.heap.size + 1))] (((w.alloc (.cells #[aa K.q] 81)).alloc (.map #[] 0)).alloc (.cells #[.map (some (w.heap.size + 1))] 148)) := by
  have e1 := heap_alloc_new ((w.alloc (.cells #[aa K.q] 81)).alloc (.map #[] 0)) (.cells #[.map (some (w.heap.size + 1))] 148)
  simpa [Fx] using e1
 have HB := hide hB
 have H0 := hide h0
 have Bx := hide h1
 have H5 := hide h5
 clear hB h0 h1 h5
 refine callsIn_wide.1 (callsIn_of_wp_marks (n := 3) Tryz.func57 rfl trivial (wpIn_wide.2 ?_))
 simp only [Tryz.ntmps57, List.size_toArray, List.length_cons, List.length_nil, Nat.reduceAdd, Nat.reduceSub, Array.replicate_succ, Array.replicate_zero, List.push_toArray, List.append_toArray, List.nil_append, List.cons_append]
 go_upto_region 2 with fail
 generalize (((w.alloc (.cells #[aa K.q] 81)).alloc (.map #[] 0)).alloc (.cells #[.map (some (w.heap.size + 1))] 148)) = w2 at *
 obtain ⟨b0, BY⟩ : ∃ b, w.heap.size = b := ⟨_, rfl⟩
 obtain ⟨mb, BZ⟩ : ∃ b, w.heap.size + 1 = b := ⟨_, rfl⟩
 obtain ⟨b5, BT⟩ : ∃ b, w.heap.size + 1 + 1 = b := ⟨_, rfl⟩
 rw [BT] at H5 ⊢
 rw [BZ] at H5 Bx ⊢
 have Bp := hide (And.intro BY (And.intro BZ BT))
 clear BZ BT
 rw [BY] at H0 ⊢
 clear BY
 have AS := hide (kG w2 la m lc)
 go_wp2_with (go_at_call 96; refine AS.out.mono ?_; rintro _ wB ⟨bb, rfl, AT, AY, AX⟩; have BX := hide AT; have AU := hide AY; have Cx := hide AX; clear AT AY AX AS)
 have Ax : Hid (w.heap.size = b0 ∧ w.heap.size + 1 = mb ∧ w.heap.size + 1 + 1 = b5 ∧ b5 < w2.heap.size ∧ w2.heap.size ≤ bb ∧ bb < wB.heap.size) := hide ⟨Bp.out.1, Bp.out.2.1, Bp.out.2.2, H5.out.lt, Cx.out, BX.out.lt⟩
 have Bj := hide (HB.out.trans (AU.out.mono HB.out.size))
 have Cf := hide ((AU.out.block mb (aD Bx.out)).trans Bx.out)
 have H5B := hide (H5.out.keep (AU.out.block _ H5.out.lt))
 have H0B := hide (H0.out.keep (AU.out.block _ H0.out.lt))
 have BK := hide (fun X : World => jH)
 clear HB AU H0 Bx H5 Bp Cx BK
 refine (wpIn_wide (n := 3)).1 ?_
 refine lP 6 7 (bb := bb) (len := m) (lc := lc) (la := la) (s := s) (p1 := 19) (p2 := 20) 3 (by omega) (by omega) rfl (enters_go Tryz.func133 (by kernel_rfl) (by kernel_rfl))
  (fun k W => k ≤ m ∧ su mb (js l k) (m - k) wB (fun _ => undef) W) ?hst ?hE ?hS ?h0 ?assign ?body ?done
 case hst =>
  rintro k W W' ⟨h1, h2, es, clock, h3, h4⟩ hb
  exact ⟨h1, tI h2 hb, es, clock, (hb.block mb (aD Cf.out)).trans h3, h4⟩
 case hE =>
  rintro k W ⟨h1, h2, -⟩
  have z := Ax.out
  refine ⟨(BX.out.keep (h2.block _ BX.out.lt (by omega))).get (i := 0) rfl, fun i hi => ?_⟩
  obtain ⟨g, o, e, hg, c0, c1, c2, c3, c4⟩ := Bn.out i (by rw [HM.out]; exact hi)
  have hk : W.heap[g]? = w.heap[g]? := (h2.block g (by omega) (by omega)).trans (Bj.out.block g hg)
  exact ⟨g, o, e, (World.cell?_of_block hk).trans c0, (World.cell?_of_block hk).trans c1, (World.cell?_of_block hk).trans c2, (World.cell?_of_block hk).trans c3, (World.cell?_of_block hk).trans c4⟩
 case hS => exact fun k W h => h.2.1.size
 case h0 => exact ⟨Nat.le_refl _, Fr.refl _ _, #[], 0, Cf.out, by have e : js l m = fun _ _ => 0 := (by rw [← HM.out]; exact yh); rw [e, Nat.sub_self]; exact zc⟩
 case assign =>
  intro l' k W K hK
  simp only [List.setIfInBounds_toArray, List.set_cons_succ, List.set_cons_zero] at hK ⊢
  gi_wp2
  exact hK
 case body =>
  intro l' k b7 W hI hk Cz Dd
  obtain ⟨x, hx⟩ := am (l := l) (i := k) (by rw [HM.out]; exact hk)
  obtain ⟨q, j, hq, hj, CV, AQ, CQ⟩ := BR.out x (List.mem_of_getElem? hx)
  obtain ⟨e1, e2, -, -, -, -⟩ := Bk.out k x hx
  have Ds : s.q k = (q : Int) := e2.trans hq
  have Dn : s.t k = (j : Int) := e1.trans hj
  have Do : Hid (js l k = mz (js l (k + 1)) q j (k : Int)) := hide (uP hx hq hj)
  obtain ⟨-, Ao, es, clock, Cn, CE⟩ := hI
  have Bh := hide Ao
  have Dq := hide CE
  have CB := hide Cn
  have CT := hide Cz
  have Ct := H5B.out.keep (Ao.block _ H5B.out.lt (by have := Ax.out; omega))
  have H5W := hide Ct
  have HK := hide (And.intro hk (And.intro Dd (And.intro CV CQ)))
  clear hx hq hj e1 e2 Ao CE Cn Cz Ct CV AQ CQ
  obtain ⟨V, hV⟩ : ∃ V, js l k = V := ⟨_, rfl⟩
  obtain ⟨c, hc⟩ : ∃ c, m - k = c := ⟨_, rfl⟩
  have HV := hide hV
  have HC := hide hc
  clear hV hc
  have HDr := hide ((Below.refl W.heap.size W).drew)
  obtain ⟨W0, CI⟩ : ∃ W0, W.drew = W0 := ⟨_, rfl⟩
  rw [CI] at HDr
  have Ap : Hid (fQ [some 21, some 22, some 23, some 24, some 25, some 26, some 27, none] [(5, aa b5), (7, aa b7), (6, .int .i64 (k : Int))] = true) := hide rfl
  have BI : Hid (∀ X, Below W0.heap.size W0 X → X.cell? ⟨b7, 0, none⟩ = some (.int .i64 (j : Int)) ∧ X.cell? ⟨b7, 1, none⟩ = some (.int .i64 (q : Int)) ∧ X.cell? ⟨b5, 0, none⟩ = some (.map (some mb))) := hide fun X hX => by
   have hb := HDr.out.trans (hX.mono HDr.out.size)
   have h7 := CT.out.keep (hb.block _ CT.out.lt)
   exact ⟨by rw [← Dn]; exact h7.get (i := 0) rfl, by rw [← Ds]; exact h7.get (i := 1) rfl, (H5W.out.keep (hb.block _ H5W.out.lt)).get (i := 0) rfl⟩
  have Dx : Hid (∀ X, Below W0.heap.size W0 X → ∃ Am Ad, (Instr.mapUpdate 148 (.map (some mb)) (pk q j) (.int .i64 (k : Int))).run Tryz.prog X = .ok () (setBlock X mb (.map Am Ad)) ∧ su mb V c W0 (fun _ => undef) (setBlock X mb (.map Am Ad))) := hide fun X hX => by
   have hb := HDr.out.trans (hX.mono HDr.out.size)
   have BG : X.heap[mb]? = some (.map es clock) := (hb.block _ (aD CB.out)).trans CB.out
   obtain ⟨Am, Ad, hr, hM⟩ := ze BG Dq.out (s := q) (q := j) (by have := HK.out; omega) (by have := HK.out; omega) (by omega) (k : Int)
   refine ⟨Am, Ad, hr, (Fr.of_below hX).trans (rq BG), Am, Ad, heap_setBlock_same BG _, ?_⟩
   rw [← HV.out, Do.out, ← HC.out, show m - k = m - (k + 1) + 1 by omega]
   exact hM
  have BK : Hid (∀ X, Calls Tryz.prog 42 #[.int .i64 (q : Int), .int .i64 (j : Int)] X fun e w' => e = .returned (.agg #[.int .i64 (q : Int), .int .i64 (j : Int)]) ∧ Below X.heap.size X w') := hide fun X => jH _ _ X
  have Dg : Hid (∀ args w', (callFunc 42 args).run Tryz.prog w' = .ok (.enter 42 args) w') := hide (enters_go Tryz.func42 (by kernel_rfl) (by kernel_rfl))
  simp only [Nat.reduceSub]
  refine wpIn_block ?_
  refine oF (Jl 7 [some 21, some 22, some 23, some 24, some 25, some 26, some 27, none] [(5, aa b5), (7, aa b7), (6, .int .i64 (k : Int))] (oV b7 mb q j k) (su mb V c W0) W0) ?hq (by kernel_rfl) (by kernel_rfl) (by kernel_rfl) ?_ (ci ⟨?_, ?_, ?_, ?_, ?_, ?_, ?_, ?_, trivial⟩) ?_
  case hq => rintro ⟨a, w, h⟩; exact h
  ·refine ⟨fun _ => ?_, fun e => by cases e⟩
   show Jg _ _ _ W0 _ _ W.drew
   rw [CI]
   exact Jg.start.2 fun p hp => by simp at hp; rcases hp with rfl | rfl | rfl <;> rfl
  ·intro ρ X L hc hf hL hd Ab Ac
   have Aa : L 7 = false := ak (by kernel_rfl) Ab (k := 0) (by simp) hL
   have hJ := Ac.1 Aa
   obtain ⟨c0, c1, c5⟩ := BI.out X hJ.low
   have k5 : ρ (.tmp 5) = aa b5 := hJ.base (5, aa b5) (by simp)
   refine ac (v := .map (some mb)) (w' := X) ?_ ⟨fun _ => hJ.put Ap.out bE (i := 0) (d := 21) rfl (Below.refl _ _) (rfl), fun e => by rw [al (by decide), Aa] at e; cases e⟩
   clear hd Ab hJ Ac hL Aa
   go_simp
  ·intro ρ X L hc hf hL hd Ab Ac
   have Aa : L 7 = false := ak (by kernel_rfl) Ab (k := 1) (by simp) hL
   have hJ := Ac.1 Aa
   have k7 : ρ (.tmp 7) = aa b7 := hJ.base (7, aa b7) (by simp)
   refine ac (v := .pointer (some ⟨b7, 1, none⟩)) (w' := X) ?_ ⟨fun _ => hJ.put Ap.out bE (i := 1) (d := 22) rfl (Below.refl _ _) (rfl), fun e => by rw [al (by decide), Aa] at e; cases e⟩
   clear hd Ab hJ Ac hL Aa
   go_simp
  ·intro ρ X L hc hf hL hd Ab Ac
   have Aa : L 7 = false := ak (by kernel_rfl) Ab (k := 2) (by simp) hL
   have hJ := Ac.1 Aa
   obtain ⟨c0, c1, c5⟩ := BI.out X hJ.low
   have Em : ρ (.tmp 22) = .pointer (some ⟨b7, 1, none⟩) := by
    obtain ⟨_, _, _, e1⟩ := hJ.get (i := 1) (d := 22) rfl (hd ⟨1, .data⟩ (by simp) rfl)
    exact e1
   refine ac (v := .int .i64 (q : Int)) (w' := X) ?_ ⟨fun _ => hJ.put Ap.out bE (i := 2) (d := 23) rfl (Below.refl _ _) (rfl), fun e => by rw [al (by decide), Aa] at e; cases e⟩
   clear hd Ab hJ Ac hL Aa
   go_simp
  ·intro ρ X L hc hf hL hd Ab Ac
   have Aa : L 7 = false := ak (by kernel_rfl) Ab (k := 3) (by simp) hL
   have hJ := Ac.1 Aa
   have k7 : ρ (.tmp 7) = aa b7 := hJ.base (7, aa b7) (by simp)
   refine ac (v := .pointer (some ⟨b7, 0, none⟩)) (w' := X) ?_ ⟨fun _ => hJ.put Ap.out bE (i := 3) (d := 24) rfl (Below.refl _ _) (rfl), fun e => by rw [al (by decide), Aa] at e; cases e⟩
   clear hd Ab hJ Ac hL Aa
   go_simp
  ·intro ρ X L hc hf hL hd Ab Ac
   have Aa : L 7 = false := ak (by kernel_rfl) Ab (k := 4) (by simp) hL
   have hJ := Ac.1 Aa
   obtain ⟨c0, c1, c5⟩ := BI.out X hJ.low
   have Ep : ρ (.tmp 24) = .pointer (some ⟨b7, 0, none⟩) := by
    obtain ⟨_, _, _, e1⟩ := hJ.get (i := 3) (d := 24) rfl (hd ⟨3, .data⟩ (by simp) rfl)
    exact e1
   refine ac (v := .int .i64 (j : Int)) (w' := X) ?_ ⟨fun _ => hJ.put Ap.out bE (i := 4) (d := 25) rfl (Below.refl _ _) (rfl), fun e => by rw [al (by decide), Aa] at e; cases e⟩
   clear hd Ab hJ Ac hL Aa
   go_simp
  ·intro ρ X L hc hf hL hd Ab Ac
   have Aa : L 7 = false := ak (by kernel_rfl) Ab (k := 5) (by simp) hL
   have hJ := Ac.1 Aa
   have Ei : ρ (.tmp 23) = .int .i64 (q : Int) := by
    obtain ⟨_, _, _, e1⟩ := hJ.get (i := 2) (d := 23) rfl (hd ⟨2, .data⟩ (by simp) rfl)
    exact e1
   have Ee : ρ (.tmp 25) = .int .i64 (j : Int) := by
    obtain ⟨_, _, _, e1⟩ := hJ.get (i := 4) (d := 25) rfl (hd ⟨4, .data⟩ (by simp) rfl)
    exact e1
   have hC := BK.out X
   have he := Dg.out #[.int .i64 (q : Int), .int .i64 (j : Int)] X
   refine dT (f := 42) (args := #[.int .i64 (q : Int), .int .i64 (j : Int)]) (w' := X) ?_ hC ?_
   ·clear hd Ab hJ Ac hL Aa hC
    go_simp
   rintro _ Y ⟨rfl, hb⟩
   exact ⟨_, rfl, fun _ => hJ.put Ap.out bE (i := 5) (d := 26) rfl hb (rfl), fun e => by rw [al (by decide), Aa] at e; cases e⟩
  ·intro ρ X L hc hf hL hd Ab Ac
   have Aa : L 7 = false := ak (by kernel_rfl) Ab (k := 6) (by simp) hL
   have hJ := Ac.1 Aa
   have k6 : ρ (.tmp 6) = .int .i64 (k : Int) := hJ.base (6, .int .i64 (k : Int)) (by simp)
   refine ac (v := .int .i64 (k : Int)) (w' := X) ?_ ⟨fun _ => hJ.put Ap.out bE (i := 6) (d := 27) rfl (Below.refl _ _) (rfl), fun e => by rw [al (by decide), Aa] at e; cases e⟩
   clear hd Ab hJ Ac hL Aa
   go_simp
  ·intro ρ X L hc hf hL hd Ab Ac
   have hJ := Ac.1 hL
   have Es : ρ (.tmp 21) = .map (some mb) := by
    obtain ⟨_, _, _, e1⟩ := hJ.get (i := 0) (d := 21) rfl (hd ⟨0, .data⟩ (by simp) rfl)
    exact e1
   have Eg : ρ (.tmp 26) = pk q j := by
    obtain ⟨_, _, _, e1⟩ := hJ.get (i := 5) (d := 26) rfl (hd ⟨5, .data⟩ (by simp) rfl)
    exact e1
   have El : ρ (.tmp 27) = .int .i64 (k : Int) := by
    obtain ⟨_, _, _, e1⟩ := hJ.get (i := 6) (d := 27) rfl (hd ⟨6, .data⟩ (by simp) rfl)
    exact e1
   obtain ⟨Am, Ad, DX, hF⟩ := Dx.out X hJ.low
   have BC : Hid (su mb V c W0 (fA (fun s => ρ (.tmp s)) none undef) (setBlock X mb (.map Am Ad))) := hide hF
   refine bY (w' := setBlock X mb (.map Am Ad)) ?_ ⟨fun e => (by rw [aF] at e; cases e), fun _ => BC.out⟩
   clear hd Ab hJ Ac hL BC hF
   go_simp
  rintro ⟨Ej, df⟩ w' Er Eo ⟨L, hL, hJ⟩ Bf
  obtain ⟨hf, Am, Ad, Du, DP⟩ := hJ.2 (hL 7 (by decide))
  have BB : Fr (fun g => g = mb) W w' := (Fr.of_below HDr.out).trans hf
  refine ⟨⟨BB.size, fun i o hi h1 h2 => (BB.block i (aD h1) (by have := Ax.out; omega)).trans h1⟩, by have := HK.out; omega, Bh.out.trans BB, Am, Ad, Du, ?_⟩
  rw [HV.out, HC.out]
  exact DP
 case done =>
  intro D wC hD hI Av
  obtain ⟨-, Ba, es, clock, Cw, CO⟩ := hI
  have CF := hide Ba
  have Cc := hide Cw
  have CN := hide CO
  have Bu := hide Av
  have CJ := hide hD
  have Aj : Hid (Below w.heap.size w wC) := hide (Bj.out.trans (Ba.below fun k hk => ⟨by have := Bj.out.size; omega, fun e => by have := Ax.out; omega⟩))
  have Ci := hide (H5B.out.keep (Ba.block _ H5B.out.lt (by have := Ax.out; omega)))
  have BS := hide (H0B.out.keep (Ba.block _ H0B.out.lt (by have := Ax.out; omega)))
  have DF := hide (HX.out.go Aj.out)
  clear Ba Cw CO Av hD Bj Cf H5B H0B
  have Cm : Below wC.heap.size wC ((wC.alloc (.cells (Array.replicate m (.bool false)) 4)).alloc (.cells #[ay wC.heap.size m] 106)) := (ae wC _).trans ((ae _ _).mono (by simp))
  have CP : Fx wC.heap.size 4 (iH m fun _ => false) ((wC.alloc (.cells (Array.replicate m (.bool false)) 4)).alloc (.cells #[ay wC.heap.size m] 106)) := by
   have e1 : Fx wC.heap.size 4 (iH m fun _ => false) (wC.alloc (.cells (Array.replicate m (.bool false)) 4)) := by unfold Fx iH; rw [heap_alloc_new]; simp [List.map_const']
   exact e1.keep ((ae _ _).block _ e1.lt)
  have Cl : Fx (wC.heap.size + 1) 106 [ay wC.heap.size m] ((wC.alloc (.cells (Array.replicate m (.bool false)) 4)).alloc (.cells #[ay wC.heap.size m] 106)) := by
   have e1 := heap_alloc_new (wC.alloc (.cells (Array.replicate m (.bool false)) 4)) (.cells #[ay wC.heap.size m] 106)
   simpa [Fx] using e1
  have Ak := hide Cm
  have Bc := hide CP
  have AJ := hide Cl
  clear Cm CP Cl
  go_upto_region 7 with fail
  generalize ((wC.alloc (.cells (Array.replicate m (.bool false)) 4)).alloc (.cells #[ay wC.heap.size m] 106)) = w4 at *
  obtain ⟨wm, BF⟩ : ∃ b, wC.heap.size = b := ⟨_, rfl⟩
  obtain ⟨b8, BN⟩ : ∃ b, wC.heap.size + 1 = b := ⟨_, rfl⟩
  rw [BN] at AJ ⊢
  rw [BF] at Bc AJ ⊢
  have Cd := hide (And.intro BF BN)
  clear BN BF
  have Cr := ae w4 (.cells #[.func (.func 97) #[] #[aa b8, aa b5]] 87)
  have CS : Fx w4.heap.size 87 [.func (.func 97) #[] #[aa b8, aa b5]] (w4.alloc (.cells #[.func (.func 97) #[] #[aa b8, aa b5]] 87)) := heap_alloc_new w4 _
  have As := hide Cr
  have AE := hide CS
  clear Cr CS
  go_upto_region 8 with fail
  generalize w4.alloc (.cells #[.func (.func 97) #[] #[aa b8, aa b5]] 87) = w5 at *
  obtain ⟨b9, BU⟩ : ∃ b, w4.heap.size = b := ⟨_, rfl⟩
  have Cv := hide BU
  rw [BU] at AE ⊢
  clear BU
  have AN : Hid (Below wC.heap.size wC w5) := hide (Ak.out.trans (As.out.mono Ak.out.size))
  have Ae : Hid (b9 < w5.heap.size ∧ b8 < w4.heap.size ∧ wm < w4.heap.size ∧ b9 = w4.heap.size ∧ wm = wC.heap.size ∧ b8 = wC.heap.size + 1) := hide ⟨AE.out.lt, AJ.out.lt, Bc.out.lt, Cv.out.symm, Cd.out.1.symm, Cd.out.2.symm⟩
  obtain ⟨n1, CA⟩ : ∃ n1, m = n1 + 1 := ⟨m - 1, by omega⟩
  have Ce : n1 < m := by omega
  have e1 : IntKind.i64.wrap ((m : Int) - 1) = (n1 : Int) := by rw [IntKind.wrap_i64]; omega
  have Di := hide CA
  obtain ⟨x1, AL⟩ := am (l := l) (i := n1) (by rw [HM.out]; exact Ce)
  obtain ⟨q1, j1, BE, AQ, Bz, BM, Ca⟩ := BR.out x1 (List.mem_of_getElem? AL)
  obtain ⟨z1, z2, -, -, -, -⟩ := Bk.out n1 x1 AL
  have DL := hide AL
  have AI : Hid (s.q n1 = (q1 : Int) ∧ s.t n1 = (j1 : Int) ∧ x1.lit = (q1 : Int) ∧ x1.tag = (j1 : Int) ∧ q1 < K.n ∧ 1 ≤ j1 ∧ j1 ≤ 4) := hide ⟨z2.trans BE, z1.trans AQ, BE, AQ, Bz, BM, Ca⟩
  clear CA AL BE AQ Bz BM Ca z1 z2
  obtain ⟨g1, o1, rfl, Dk, c0, c1, c2, c3, c4⟩ := Bn.out n1 (by rw [HM.out]; exact Ce)
  have AO : w5.heap[g1]? = w.heap[g1]? := (AN.out.block g1 (by have := Aj.out.size; omega)).trans (Aj.out.block g1 Dk)
  have d0 := (World.cell?_of_block (a := ⟨g1, o1 + n1 * 5, none⟩) AO).trans c0
  have d1 := (World.cell?_of_block (a := ⟨g1, o1 + n1 * 5 + 1, none⟩) AO).trans c1
  have d2 := (World.cell?_of_block (a := ⟨g1, o1 + n1 * 5 + 2, none⟩) AO).trans c2
  have d3 := (World.cell?_of_block (a := ⟨g1, o1 + n1 * 5 + 3, none⟩) AO).trans c3
  have d4 := (World.cell?_of_block (a := ⟨g1, o1 + n1 * 5 + 4, none⟩) AO).trans c4
  clear AO c0 c1 c2 c3 c4
  have BJ : Fx w5.heap.size 32 (s.l n1) (w5.alloc (.cells (s.l n1).toArray 32)) := heap_alloc_new w5 _
  have AP := hide BJ
  have DO := hide (AN.out.trans ((ae w5 (.cells (s.l n1).toArray 32)).mono AN.out.size))
  clear BJ
  go_upto_region 9 with fail
  change Code.wp _ _ _ _ (w5.alloc (.cells (s.l n1).toArray 32))
  clear d0 d1 d2 d3 d4
  have An := hide (ae w5 (.cells (s.l n1).toArray 32))
  generalize w5.alloc (.cells (s.l n1).toArray 32) = w6 at *
  obtain ⟨CC, Be⟩ : ∃ b, w5.heap.size = b := ⟨_, rfl⟩
  have Db := hide Be
  rw [Be] at AP ⊢
  clear Be
  have BA : Hid (LI b5 b8 wm mb l m (fun _ => false) w6) := hide (by
   have h1 := As.out.trans (An.out.mono As.out.size)
   have h2 := Ak.out.trans (h1.mono Ak.out.size)
   exact ⟨Bc.out.keep (h1.block _ Bc.out.lt), AJ.out.keep (h1.block _ AJ.out.lt), Ci.out.keep (h2.block _ Ci.out.lt), es, clock, _, (h2.block _ (aD Cc.out)).trans Cc.out, CN.out⟩)
  have WN := hide (fun W0 : Nat → Bool => vN (n := K.n) (b5 := b5) (b8 := b8) (wm := wm) (mb := mb) (m := m) (l := l) (W0 := W0) Dw (by omega) HM.out (by omega))
  have Cp : Hid (Calls Tryz.prog 97 #[.int .i64 (q1 : Int), .int .i64 (j1 : Int), aa b8, aa b5] w6 fun e w' => e = .returned (.tuple #[]) ∧ ∃ Z2, Pz (uO b5 b8 wm mb l m fun _ => false) (fun k => k = wm) w6 Z2 [((q1 : Int), (j1 : Int))] w') := hide (by
   obtain ⟨k, Ea, e, -, hc⟩ := (WN.out fun _ => false).call
   cases e
   exact hc (fun k => k = wm) [] w6 _ _ ⟨rfl, BA.out⟩ ⟨by omega, by have := AI.out; omega, by have := AI.out; unfold aw; omega⟩)
  have f0 : w6.cell? ⟨CC, 0, none⟩ = some (.int .i64 (j1 : Int)) := by rw [← AI.out.2.1]; exact AP.out.get (i := 0) rfl
  have f1 : w6.cell? ⟨CC, 1, none⟩ = some (.int .i64 (q1 : Int)) := by rw [← AI.out.1]; exact AP.out.get (i := 1) rfl
  have f9 := (AE.out.keep (An.out.block _ AE.out.lt)).get (i := 0) rfl
  go_upto_region 9 with fail
  go_wp2_with fail
  refine Cp.out.mono ?_
  rintro _ w7 ⟨rfl, Z7, CM⟩
  have AA := hide CM
  clear CM Cp f0 f1 f9 AP
  obtain ⟨W1, BW⟩ : ∃ W1, eH l (fun _ => false) [((q1 : Int), (j1 : Int))] = W1 := ⟨_, rfl⟩
  have DM := hide BW
  have Cb : Hid (LI b5 b8 wm mb l m W1 w7) := hide (by rw [← BW]; exact AA.out.inv.2)
  clear BW
  have AS := hide (kG w7 (some ⟨g1, o1, none⟩) m lc)
  go_wp2_with (go_at_call 96; refine AS.out.mono ?_; rintro _ wD ⟨b2, rfl, AT, AY, AX⟩; have Bq := hide AT; have Au := hide AY; have Cg := hide AX; clear AT AY AX AS)
  have BL : Hid (∀ g, g < wC.heap.size → wD.heap[g]? = wC.heap[g]?) := hide fun g hg => by
   have z := Ae.out
   have s4 := Ak.out.size
   have s5 := As.out.size
   have s6 := An.out.size
   have s7 := AA.out.fr.size
   rw [Au.out.block g (by omega), AA.out.fr.block g (by omega) (by omega), An.out.block g (by omega), AN.out.block g hg]
  have AB : Hid (wC.heap.size ≤ w4.heap.size ∧ w4.heap.size ≤ w5.heap.size ∧ w5.heap.size ≤ w6.heap.size ∧ w6.heap.size ≤ w7.heap.size ∧ w7.heap.size ≤ wD.heap.size ∧ w7.heap.size ≤ b2 ∧ b2 < wD.heap.size) := hide ⟨Ak.out.size, As.out.size, An.out.size, AA.out.fr.size, Au.out.size, Cg.out, Bq.out.lt⟩
  have AC : Hid (Below w.heap.size w wD) := hide (by
   have h1 := Aj.out.trans (AN.out.mono Aj.out.size)
   have h2 := h1.trans (An.out.mono h1.size)
   have h3 := h2.trans (show Below w.heap.size w6 w7 from AA.out.fr.below fun k hk => ⟨by have := h2.size; omega, fun e => by have := Ae.out; have := Aj.out.size; omega⟩)
   exact h3.trans (Au.out.mono h3.size))
  have Bd := hide (Cb.out.go Au.out)
  have H9D : Hid (Fx b9 87 [.func (.func 97) #[] #[aa b8, aa b5]] wD) := hide (((AE.out.keep (An.out.block _ AE.out.lt)).keep (AA.out.fr.block _ (by have := Ae.out; have := AB.out; omega) (by have := Ae.out; omega))).keep (Au.out.block _ (by have := Ae.out; have := AB.out; omega)))
  have H0D := hide (BS.out.keep (BL.out _ BS.out.lt))
  have By := hide ((BL.out _ (aD Bu.out)).trans Bu.out)
  have Bs : Hid (D < wC.heap.size) := hide (aD Bu.out)
  clear Ak As An Bc AJ AE BA AA Au Cg Cb AN DO BS Ci Cc CN Bu DF Cd Cv Db
  refine (wpIn_wide (n := 3)).1 ?_
  refine lP 11 12 (bb := b2) (len := m) (lc := lc) (la := some ⟨g1, o1, none⟩) (s := s) (p1 := 46) (p2 := 47) 3 (by omega) (by omega) rfl (enters_go Tryz.func133 (by kernel_rfl) (by kernel_rfl))
   (fun k W => k ≤ m ∧ Fr (fun g => g = wm) wD W ∧ ∃ Wk, eB T l m W1 = eB T l k Wk ∧ LI b5 b8 wm mb l m Wk W) ?hst ?hE ?hS ?h0 ?assign ?body ?done
  case hst =>
   rintro k W W' ⟨h1, h2, Wk, h3, h4⟩ hb
   exact ⟨h1, tI h2 hb, Wk, h3, h4.keep fun g hg => hb.block g (by
    have := Bd.out.lt
    rcases hg with rfl | rfl | rfl | rfl <;> omega)⟩
  case hE =>
   rintro k W ⟨h1, h2, -⟩
   have z := Ae.out
   have z2 := AB.out
   refine ⟨(Bq.out.keep (h2.block _ Bq.out.lt (by omega))).get (i := 0) rfl, fun i hi => ?_⟩
   obtain ⟨g, o, e, hg, c0, c1, c2, c3, c4⟩ := Bn.out i (by rw [HM.out]; exact hi)
   have hk : W.heap[g]? = w.heap[g]? := (h2.block g (by have := AC.out.size; omega) (by have := Aj.out.size; omega)).trans (AC.out.block g hg)
   exact ⟨g, o, e, (World.cell?_of_block hk).trans c0, (World.cell?_of_block hk).trans c1, (World.cell?_of_block hk).trans c2, (World.cell?_of_block hk).trans c3, (World.cell?_of_block hk).trans c4⟩
  case hS => exact fun k W h => h.2.1.size
  case h0 => exact ⟨Nat.le_refl _, Fr.refl _ _, W1, rfl, Bd.out⟩
  case assign =>
   intro l' k W K hK
   simp only [List.setIfInBounds_toArray, List.set_cons_succ, List.set_cons_zero] at hK ⊢
   gi_wp2
   exact hK
  case body =>
   intro l' k AW W hI hk At DW
   obtain ⟨-, Ao, Wk, BO, AK⟩ := hI
   obtain ⟨x, hx⟩ := am (l := l) (i := k) (by rw [HM.out]; exact hk)
   obtain ⟨e1, e2, e3, e4, e5, Az⟩ := Bk.out k x hx
   have Co : Below w.heap.size w W := AC.out.trans (Ao.below fun i hi => ⟨by have := AC.out.size; omega, fun e => by have := Ae.out; have := Aj.out.size; omega⟩)
   have Bm : Hid (eB T l (k + 1) Wk = eB T l k (if Wk k then eH l Wk (formM T x).2 else Wk)) := hide (by show eB T l k (if Wk k then (match l[k]? with | some s => eH l Wk (formM T s).2 | none => Wk) else Wk) = _; rw [hx])
   have c8 := AK.b8.get (i := 0) rfl
   have cw := AK.wx.get (jr hk)
   have CZ := hide AK
   have Bh := hide Ao
   have Bv := hide BO
   have CL := hide hk
   simp only [Nat.reduceSub]
   cases hwk : Wk k with
   | false =>
    rw [hwk] at cw
    have HE : Hid (eB T l m W1 = eB T l k Wk) := hide (by rw [Bv.out, Bm.out, hwk]; rfl)
    clear hwk Bm Bv hx Az AK Ao BO e1 e2 e3 e4 e5
    refine wpIn_block ?_
    gi_wp2
    exact ⟨⟨Nat.le_refl _, fun i o _ h1 _ => h1⟩, by have := CL.out; omega, Bh.out, Wk, HE.out, CZ.out⟩
   | true =>
    rw [hwk] at cw
    have HE : Hid (eB T l m W1 = eB T l k (eH l Wk (formM T x).2)) := hide (by rw [Bv.out, Bm.out, hwk]; rfl)
    obtain ⟨g3, o3, DD, DH, -, -, -, -, -, -, -, Ab, -, Bb, AV⟩ := HL.out k x hx
    have C := hide (lU (K := K) (T := T) (Inv := uO b5 b8 wm mb l m Wk) (Z := fun k => k = wm) (w := W) (l := []) (tag := x.tag) (lit := x.lit) (how := x.how) (rule := x.rule) (ch := x.ch) (ca := s.a k) (cc := s.c k) HT.out (HX.out.go Co) ⟨rfl, AK⟩ (fun i hi => ⟨fun hs => by have := HX.out.lt i hs; have := Ae.out; have := Aj.out.size; omega, by have := HX.out.n0; have := Ae.out; have := Aj.out.size; omega⟩) (WN.out Wk) Bb AV Ab (Az.keep fun g hg => Co.block g hg).chs (fun g o e hne => fun e2 => by
     obtain ⟨c0, DG⟩ := am (l := x.ch) (i := 0) (by cases hz : x.ch with | nil => exact absurd hz hne | cons => simp)
     obtain ⟨g', o', e', hg', -, -⟩ := Az 0 c0 DG
     rw [e] at e'
     cases e'
     have := Ae.out
     have := Aj.out.size
     omega))
    have t0 : W.cell? ⟨AW, 0, none⟩ = some (.int .i64 x.tag) := by rw [← e1]; exact At.get (i := 0) rfl
    have t1 : W.cell? ⟨AW, 1, none⟩ = some (.int .i64 x.lit) := by rw [← e2]; exact At.get (i := 1) rfl
    have t2 : W.cell? ⟨AW, 2, none⟩ = some (.int .i64 x.how) := by rw [← e3]; exact At.get (i := 2) rfl
    have t3 : W.cell? ⟨AW, 3, none⟩ = some (.int .i64 x.rule) := by rw [← e4]; exact At.get (i := 3) rfl
    have t4 : W.cell? ⟨AW, 4, none⟩ = some (.slice (s.a k) x.ch.length (s.c k)) := by rw [← e5]; exact At.get (i := 4) rfl
    have f9 := (H9D.out.keep (Ao.block _ H9D.out.lt (by have := Ae.out; omega))).get (i := 0) rfl
    have f0 := (H0D.out.keep (Ao.block _ H0D.out.lt (by have := Ax.out; have := Ae.out; have := CF.out.size; omega))).get (i := 0) rfl
    clear hwk Bm Bv hx Az AK Ao BO e1 e2 e3 e4 e5 Ab Bb AV At
    obtain ⟨fm, Ch⟩ : ∃ z, formM T ⟨x.tag, x.lit, x.how, x.rule, x.ch⟩ = z := ⟨_, rfl⟩
    rw [Ch] at C
    have DI : Hid (eB T l m W1 = eB T l k (eH l Wk fm.2)) := hide (by rw [← Ch]; exact HE.out)
    obtain ⟨Ah, Ai, Ag, Af, AD⟩ := x
    simp only at C t0 t1 t2 t3 t4
    clear Ch HE
    refine wpIn_block ?_
    gi_wp2_with (refine ⟨trivial, ?_⟩; gi_at_call 40; refine (CallsIn.inRound l' (callsIn_wide.2 C.out)).mono ?_; rintro _ w8 ⟨rfl, Z8, Cs⟩; have Bo := hide Cs; clear Cs C)
    exact ⟨⟨Bo.out.fr.size, fun i o hi h1 h2 => (Bo.out.fr.block i (aD h1) (by have := Ae.out; have := AB.out; omega)).trans h1⟩, by have := CL.out; omega, Bh.out.trans Bo.out.fr, _, DI.out, Bo.out.inv.2⟩
  intro D2 wE DT hI Av
  obtain ⟨-, BV, Wf, Cy, AG⟩ := hI
  have Dy : Hid (jP T l = dX Wf 0 l) := hide (by
   have AL := DL.out
   unfold jP
   rw [HM.out, show m - 1 = n1 by have := Di.out; omega, AL]
   show dX (eB T l m (eH l (fun _ => false) [(x1.lit, x1.tag)])) 0 l = _
   rw [AI.out.2.2.1, AI.out.2.2.2.1, DM.out, Cy]
   rfl)
  have Aw : Hid (Below w.heap.size w wE) := hide (AC.out.trans (BV.below fun i hi => ⟨by have := AC.out.size; omega, fun e => by have := Ae.out; have := Aj.out.size; omega⟩))
  have Dm : Hid (wE.heap[D]? = some (.deferred (some []))) := hide ((BV.block D (by have := AB.out; have := Bs.out; omega) (by have := Ae.out; have := Bs.out; omega)).trans By.out)
  have HD2E := hide Av
  have AF : Hid (D < D2 ∧ D2 < wE.heap.size ∧ w.heap.size ≤ D) := hide ⟨by have := Bs.out; have := AB.out; omega, aD Av, by have := CJ.out; have := Ax.out; omega⟩
  have Cj := hide AG.wx
  have HB8E := hide AG.b8
  have Ef : Hid (wm < wE.heap.size ∧ b8 < wE.heap.size) := hide ⟨AG.wx.lt, AG.b8.lt⟩
  obtain ⟨iC, Dj, Dz, DB, DK⟩ := info_parts qc
  obtain ⟨iS, Dt, DS, Dr, DJ⟩ := info_parts rH
  clear BV Cy AG Av DT AC BL Bd H9D H0D By AB CF Aj Bq Bs CJ BR
  go_wp2_with fail
  go_loopw [13, 58] (fun u x wr => ∃ (k n : Nat) (tl : List StM) (ma : Option Addr) (mc : Nat), k ≤ m ∧ n ≤ k ∧ Hid (tl.length = n) ∧ x = .int .i64 k ∧ u = .slice ma n mc ∧ Hid (Gy 32 5 i5 wE.heap.size tl (.slice ma n mc) wr) ∧ Hid (dX Wf 0 l = tl ++ dX Wf k (l.drop k)) ∧ Hid (Below wE.heap.size wE wr)) (fun _ x _ => m - (intOf x).toNat)
  case atStart => exact ⟨0, 0, [], none, 0, by omega, by omega, hide rfl, rfl, rfl, hide Gy.nil, hide (by rw [List.drop_zero]; rfl), hide (Below.refl _ _)⟩
  obtain ⟨k, n, tl, ma, mc, hk, Ek, Bt, rfl, rfl, HG, AM, Ar⟩ := hrel
  by_cases hlt : k < m
  ·obtain ⟨x, hx⟩ := am (l := l) (i := k) (by rw [HM.out]; exact hlt)
   obtain ⟨e1, e2, e3, e4, e5, Az⟩ := Bk.out k x hx
   obtain ⟨g3, o3, DD, DH, -, -, -, -, -, -, -, Ab, -, Bb, AV⟩ := HL.out k x hx
   obtain ⟨g, o, DQ, hg, c0, c1, c2, c3, c4⟩ := Bn.out k (by rw [HM.out]; exact hlt)
   cases DQ
   have AH : wr.heap[g1]? = w.heap[g1]? := (Ar.out.block g1 (by have := Aw.out.size; omega)).trans (Aw.out.block g1 hg)
   have d0 := (World.cell?_of_block (a := ⟨g1, o1 + k * 5, none⟩) AH).trans c0
   have d1 := (World.cell?_of_block (a := ⟨g1, o1 + k * 5 + 1, none⟩) AH).trans c1
   have d2 := (World.cell?_of_block (a := ⟨g1, o1 + k * 5 + 2, none⟩) AH).trans c2
   have d3 := (World.cell?_of_block (a := ⟨g1, o1 + k * 5 + 3, none⟩) AH).trans c3
   have d4 := (World.cell?_of_block (a := ⟨g1, o1 + k * 5 + 4, none⟩) AH).trans c4
   rw [e1] at d0
   rw [e2] at d1
   rw [e3] at d2
   rw [e4] at d3
   rw [e5] at d4
   have Br : Hid (dX Wf k (l.drop k) = if Wf k then x :: dX Wf (k + 1) (l.drop (k + 1)) else dX Wf (k + 1) (l.drop (k + 1))) := hide (by rw [aM hx]; rfl)
   have hA := ae wr (.cells #[.int .i64 x.tag, .int .i64 x.lit, .int .i64 x.how, .int .i64 x.rule, .slice (s.a k) x.ch.length (s.c k)] 32)
   have hQ : Fx wr.heap.size 32 [.int .i64 x.tag, .int .i64 x.lit, .int .i64 x.how, .int .i64 x.rule, .slice (s.a k) x.ch.length (s.c k)] (wr.alloc (.cells #[.int .i64 x.tag, .int .i64 x.lit, .int .i64 x.how, .int .i64 x.rule, .slice (s.a k) x.ch.length (s.c k)] 32)) := heap_alloc_new wr _
   have Bl : Hid (Src Tryz.prog 2 30 (.slice (s.a k) x.ch.length (s.c k)) x.ch.length (prs x.ch) (wr.alloc (.cells #[.int .i64 x.tag, .int .i64 x.lit, .int .i64 x.how, .int .i64 x.rule, .slice (s.a k) x.ch.length (s.c k)] 32))) := hide (yz ((Az.keep (w' := wr.alloc (.cells #[.int .i64 x.tag, .int .i64 x.lit, .int .i64 x.how, .int .i64 x.rule, .slice (s.a k) x.ch.length (s.c k)] 32)) fun g hg => (hA.block g (by have := Ar.out.size; have := Aw.out.size; omega)).trans ((Ar.out.block g (by have := Aw.out.size; omega)).trans (Aw.out.block g hg))).chs))
   have HA := hide hA
   have HQ := hide hQ
   have Eb := hide (And.intro Bb AV)
   have BQ := DA.out x (List.mem_of_getElem? hx)
   clear AH c0 c1 c2 c3 c4 e1 e2 e3 e4 e5 Az hx hA hQ Bb AV
   obtain ⟨Ah, Ai, Ag, Af, AD⟩ := x
   simp only at d0 d1 d2 d3 d4 Bl HQ HA Ab BQ
   have Eh : Hid (Exists fun z : StM => z = ⟨Ah, Ai, Ag, Af, AD⟩) := hide ⟨_, rfl⟩
   obtain ⟨cn, BH⟩ : ∃ c, AD.length = c := ⟨_, rfl⟩
   have CW := hide BH
   rw [BH] at d4 Bl HQ HA Ab BQ
   clear BH
   go_upto_region 19 with fail
   clear d0 d1 d2 d3 d4
   generalize wr.alloc (.cells #[.int .i64 Ah, .int .i64 Ai, .int .i64 Ag, .int .i64 Af, .slice (s.a k) cn (s.c k)] 32) = w1 at *
   obtain ⟨Aq, Bg⟩ : ∃ b, wr.heap.size = b := ⟨_, rfl⟩
   have CY := hide Bg
   rw [Bg] at HQ ⊢
   clear Bg
   have AR := hide (Ar.out.trans (HA.out.mono Ar.out.size))
   have c8 := (HB8E.out.keep (AR.out.block _ HB8E.out.lt)).get (i := 0) rfl
   have cw := (Cj.out.keep (AR.out.block _ Cj.out.lt)).get (jr hlt)
   cases hwk : Wf k with
   | false =>
    rw [hwk] at cw
    have HE : Hid (dX Wf 0 l = tl ++ dX Wf (k + 1) (l.drop (k + 1))) := hide (by rw [AM.out, Br.out, hwk]; rfl)
    have DE := hide (HG.out.keep gN (wd := w1) (fun g h1 h2 => HA.out.block g h2) HA.out.size)
    clear hwk Br AM HG
    go_wp2_with fail
    go_roundw
    case rel => exact ⟨k + 1, n, tl, ma, mc, by omega, by omega, Bt, by go_num, rfl, DE, HE, AR⟩
    case measure => simp [intOf]; omega
   | true =>
    rw [hwk] at cw
    have HE : Hid (dX Wf 0 l = (tl ++ [⟨Ah, Ai, Ag, Af, AD⟩]) ++ dX Wf (k + 1) (l.drop (k + 1))) := hide (by rw [AM.out, Br.out, hwk, List.append_assoc]; rfl)
    clear hwk Br AM
    have k4 := HQ.out.get (i := 4) rfl
    have CR : Hid (w1.ownsRow w1.heap.size 100 2 (.slice none 0 0) 0 []) := hide ⟨rfl, .inl ⟨rfl, rfl⟩⟩
    go_upto_region 20 with fail
    go_upto_region 21 with (at_builtin; go_must (refine gQ _ (Nat.le_refl _) (by rfl) _ _ 30 30 rfl 100 iC _ 2 16 Tryz.underlying30 Dj Dz DB DK rfl (.slice none 0 0) 0 [] rfl CR.out (.slice (s.a k) cn (s.c k)) cn (prs AD) rfl Bl.out (by unfold maxLen; omega) (by omega) ?_); intro v4 w4 Ay CD CX; rw [Nat.zero_add, List.nil_append] at Ay; obtain ⟨a4, c4, rfl⟩ := bf Ay; have CG := hide Ay; have Ak : Hid (Below w1.heap.size w1 w4) := hide ((Fr.of_grown (Z := fun _ => False) CD (fun k e => by simp [Value.ownBlock] at e)).below fun k hk => ⟨hk, fun h => h⟩); have Bw := hide (HQ.out.keep (Ak.out.block _ HQ.out.lt)); have z4 := Bw.out.frz 4; have y4 := Bw.out.get (i := 4) rfl; clear Ay CD CX)
    have AZ : Hid (Fx Aq 32 [.int .i64 Ah, .int .i64 Ai, .int .i64 Ag, .int .i64 Af, .slice a4 cn c4] (w4.setCell ⟨Aq, 4, none⟩ (.slice a4 cn c4))) := hide (Bw.out.set 4 (.slice a4 cn c4))
    have DV := HQ.out.lt
    have BP := hide (owns_keep (w' := w4.setCell ⟨Aq, 4, none⟩ (.slice a4 cn c4)) CG.out fun g hg => other_set (by have := (CG.out.lt g hg).1; omega))
    have s1 := HA.out.size
    have s4 := Ak.out.size
    have s5 := Ar.out.size
    have Ed := CY.out
    have DZ : w4.heap.size ≤ (w4.setCell ⟨Aq, 4, none⟩ (.slice a4 cn c4)).heap.size := by simp
    have CK : Hid (∀ g, wE.heap.size ≤ g → g < wr.heap.size → (w4.setCell ⟨Aq, 4, none⟩ (.slice a4 cn c4)).heap[g]? = wr.heap[g]?) := hide fun g h1 h2 => by
     rw [other_set (by omega), Ak.out.block g (by omega), HA.out.block g h2]
    have As : Hid (Below wE.heap.size wE (w4.setCell ⟨Aq, 4, none⟩ (.slice a4 cn c4))) := hide ((AR.out.trans (Ak.out.mono AR.out.size)).setCell (p := ⟨Aq, 4, none⟩) (by show wE.heap.size ≤ Aq; omega) _)
    clear k4 z4 y4 c8 cw Bw HQ CR Bl
    generalize w4.setCell ⟨Aq, 4, none⟩ (.slice a4 cn c4) = w5 at *
    have f0 := AZ.out.get (i := 0) rfl
    have f1 := AZ.out.get (i := 1) rfl
    have f2 := AZ.out.get (i := 2) rfl
    have f3 := AZ.out.get (i := 3) rfl
    have f4 := AZ.out.get (i := 4) rfl
    obtain ⟨Z, xs, Al, hz, Bf⟩ := HG.out
    rw [Bt.out] at Al
    have Ck := hide Al
    have HZ := hide hz
    have De := hide Bf
    have Dc := hide (owns_keep Al fun g hg => ((ae w5 (.cells #[.int .i64 Ah, .int .i64 Ai, .int .i64 Ag, .int .i64 Af, .slice a4 cn c4] 32)).block g (by have := (Al.lt g hg).2; omega)).trans (CK.out g (Al.lt g hg).1 (Al.lt g hg).2))
    have Dv : Hid (∀ g, Value.ownBlock (.slice ma n mc) = some g → wE.heap.size ≤ g) := hide fun g e => (Al.lt g e).1
    clear Al hz Bf HG
    go_wp2_with (at_builtin; go_must (refine bt _ rfl _ _ 27 rfl wE.heap.size 32 iS _ 5 56 Tryz.underlying27 Dt DS Dr DJ rfl (by decide) (.slice ma n mc) n xs rfl Dc.out ⟨w5.heap.size, 0, none⟩ 1 [.int .i64 Ah, .int .i64 Ai, .int .i64 Ag, .int .i64 Af, .slice a4 cn c4] rfl rfl (lF (cs := [.int .i64 Ah, .int .i64 Ai, .int .i64 Ag, .int .i64 Af, .slice a4 cn c4]) rfl) (by intro u hu; simp at hu; rcases hu with rfl | rfl | rfl | rfl | rfl <;> rfl) (by unfold maxLen; omega) (by omega) (by simp; omega) ?_); intro g4 BD w6 Bi CU; have DR := hide Bi; have CH := hide CU; clear Bi CU)
    have DC : Hid (Fr (fun k => wE.heap.size ≤ k) w5 w6) := hide (dj rfl (by rcases CH.out with h | ⟨h1, h2⟩; exact .inl h; exact .inr ⟨by simpa using h1, h2⟩) Dv.out)
    have Dp : Hid (Gy 32 5 i5 wE.heap.size (tl ++ [⟨Ah, Ai, Ag, Af, AD⟩]) (.slice (some ⟨g4, 0, none⟩) (n + 1) BD) w6) := hide (Gy.grow (Zn := fun g => Value.ownBlock (.slice a4 cn c4) = some g) gN Bt.out Ck.out HZ.out De.out CK.out (by omega) (by omega) (fun g hg => ⟨by have := (BP.out.lt g hg).1; omega, (BP.out.lt g hg).2⟩) ⟨.slice a4 cn c4, rfl, rQ (by rw [CW.out]; exact BP.out) (fun g e => e) (by rw [CW.out]; exact Ab)⟩ rfl DR.out (by rcases CH.out with h | ⟨h1, h2⟩; exact .inl h; exact .inr ⟨by simpa using h1, h2⟩))
    have An : Hid (Below wE.heap.size wE w6) := hide (As.out.trans (DC.out.below fun k hk => ⟨by have := As.out.size; omega, by omega⟩))
    go_roundw
    case rel => exact ⟨k + 1, n + 1, tl ++ [⟨Ah, Ai, Ag, Af, AD⟩], some ⟨g4, 0, none⟩, BD, by omega, by omega, hide (by rw [List.length_append, Bt.out]; rfl), by go_num, rfl, Dp, HE, An⟩
    case measure => simp [intOf]; omega
  have HE : Hid (jP T l = tl) := hide (by rw [Dy.out, AM.out, List.drop_eq_nil_of_le (by rw [HM.out]; omega)]; unfold dX; rw [List.append_nil])
  have Da := hide ((Ar.out.block D (by have := AF.out; omega)).trans Dm.out)
  have HD2E2 := hide ((Ar.out.block D2 (by have := AF.out; omega)).trans HD2E.out)
  clear AM
  go_wp2_with fail
  refine ⟨by simp, .inl ⟨_, _, rfl, run_takeDeferred HD2E2.out, ?_⟩⟩
  have Df : Hid ((wr.putObj D2 (.deferred none)).heap[D]? = some (.deferred (some []))) := hide ((World.putObj_heap_other (by have := AF.out; omega)).trans Da.out)
  refine ⟨by simp, .inl ⟨_, _, rfl, run_takeDeferred Df.out, ?_⟩⟩
  refine ⟨.slice ma n mc, by simp [results, go_sem], .slice ma n mc, rfl, ?_, ?_⟩
  ·rw [HE.out]
   have hk : ∀ g, wE.heap.size ≤ g → ((wr.putObj D2 (.deferred none)).putObj D (.deferred none)).heap[g]? = wr.heap[g]? := fun g hg => by
    rw [World.putObj_heap_other (by have := AF.out; omega), World.putObj_heap_other (by have := AF.out; omega)]
   exact (HG.out.keep gN (fun g h1 _ => hk g h1) (by simp)).down Aw.out.size
  have h1 := Aw.out.trans (Ar.out.mono Aw.out.size)
  exact h1.trans ⟨rfl, rfl, rfl, by simp, fun i hi => by rw [World.putObj_heap_other (by have := AF.out; omega), World.putObj_heap_other (by have := AF.out; omega)]⟩
end
end Go.Proofs.YtmlhcncagdfjfaaGreat.De
