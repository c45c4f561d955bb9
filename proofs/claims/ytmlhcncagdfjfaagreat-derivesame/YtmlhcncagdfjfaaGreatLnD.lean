import Derived.Test.YtmlhcncagdfjfaaGreatLnA
import Derived.Test.YtmlhcncagdfjfaaGreatDrM
set_option maxRecDepth 100000
set_option maxHeartbeats 25600000
namespace Go.Proofs.YtmlhcncagdfjfaaGreat.De
open Go.RowKit Fa Go.Shelf Rg
open Go.ChangeMaps (setBlock heap_setBlock_same heap_setBlock_other)
attribute [local go_sem] Oper.semAt_some
def oE (b7 mb q j k : Nat) (i : Nat) (v : Value) (_ : World) (_ _ : Nat) : Prop := match i with
 | 0 => v = .map (some mb)
 | 1 => v = .pointer (some ⟨b7, 1, none⟩)
 | 2 => v = .int .i64 (q : Int)
 | 3 => v = .pointer (some ⟨b7, 0, none⟩)
 | 4 => v = .int .i64 (j : Int)
 | 5 => v = pk q j
 | 6 => v = .int .i64 (k : Int)
 | _ => True
theorem bL {b7 mb q j k : Nat} : ∀ i v W W' lo hi, oE b7 mb q j k i v W lo hi → hi ≤ W.heap.size → Below W.heap.size W W' → oE b7 mb q j k i v W' lo hi := fun _ _ _ _ _ _ h _ _ => h
def sG (mb : Nat) (V : Nat → Nat → Int) (c : Nat) (W0 : World) (_ : Nat → Value) (W : World) : Prop := Fr (fun g => g = mb) W0 W ∧ ∃ es clock, W.heap[mb]? = some (.map es clock) ∧ Mi V c es clock
theorem re {w : World} {b clock : Nat} {es : Array MapEntry} {o : Obj} (hb : w.heap[b]? = some (.map es clock)) : Fr (fun g => g = b) w (setBlock w b o) := by
 refine ⟨rfl, rfl, rfl, by rw [dN]; exact Nat.le_refl _, fun i hi hz => heap_setBlock_other hb _ (fun e => hz e)⟩
section
variable {S : Nat → Prop} {N0 : Nat} {K : cH} {T : Th} {w : World} {l : List StM} {la : Option Addr} {lc : Nat}
theorem vw (hT : Wt T K.n) (hX : Xr S N0 K T w) (hl : Sts w.heap.size w l la) (hl0 : 0 < l.length) (hll : l.length ≤ 65536) (hls : ∀ s ∈ l, ∃ q j : Nat, s.lit = (q : Int) ∧ s.tag = (j : Int) ∧ q < K.n ∧ 1 ≤ j ∧ j ≤ 4) (hlc : ∀ s ∈ l, s.ch.length ≤ 1048576) :
    Calls Tryz.prog 57 #[ab K.q, .slice la l.length lc] w fun e w' => ∃ v, e = .returned v ∧ Gy 32 5 jn w.heap.size (jt T l) v w' ∧ Below w.heap.size w w' := by
 have DY : Tryz.prog.follows .mixedOrders = true := by kernel_rfl
 have Eg := @run_makeMap Tryz.prog
 obtain ⟨iB, DL, Dv, DH, DB⟩ := info_parts jK
 obtain ⟨s, CS, Cn⟩ := zH hl
 have Br := hide CS
 have Bq := hide Cn
 have HL := hide hl
 have HT := hide hT
 have HX := hide hX
 have BR := hide hls
 have DF := hide hlc
 obtain ⟨m, hm⟩ : ∃ m, l.length = m := ⟨_, rfl⟩
 have HM := hide hm
 have Dj := hT.n4
 rw [hm] at hl0 hll ⊢
 have Ep : ∀ W, (Instr.makeSlice 106 (.int .i64 (m : Int)) (.int .i64 (m : Int))).run Tryz.prog W = .ok (az W.heap.size m) (W.alloc (.cells (Array.replicate m (.bool false)) 4)) := fun W => aK (P := Tryz.prog) Tryz.underlying106 DL Dv DH rfl m (by rw [DB]; omega) (by unfold maxLen; omega) W
 clear hT hX hl hls CS Cn hm hlc
 have hB : Below w.heap.size w (((w.alloc (.cells #[ab K.q] 81)).alloc (.map #[] 0)).alloc (.cells #[.map (some (w.heap.size + 1))] 148)) := ((ac w _).trans ((ac _ _).mono (by simp))).trans ((ac _ _).mono (by simp; omega))
 have h0 : Fx w.heap.size 81 [ab K.q] (((w.alloc (.cells #[ab K.q] 81)).alloc (.map #[] 0)).alloc (.cells #[.map (some (w.heap.size + 1))] 148)) := by
  have e1 : (w.alloc (.cells #[ab K.q] 81)).heap[w.heap.size]? = some (.cells #[ab K.q] 81 (0, 0)) := heap_alloc_new w _
  exact (Below.heap_alloc _ _ _ (by simp; omega)).trans ((Below.heap_alloc _ _ _ (by simp)).trans e1)
 have h1 : (((w.alloc (.cells #[ab K.q] 81)).alloc (.map #[] 0)).alloc (.cells #[.map (some (w.heap.size + 1))] 148)).heap[w.heap.size + 1]? = some (.map #[] 0) := by
  have e1 := World.alloc_heap_new (w.alloc (.cells #[ab K.q] 81)) (.map #[] 0)
  rw [World.size_alloc] at e1
  exact (Below.heap_alloc _ _ _ (by simp)).trans e1
 have h5 : Fx (w.heap.size + 1 + 1) 148 [.map (some (w.heap.size + 1))] (((w.alloc (.cells #[ab K.q] 81)).alloc (.map #[] 0)).alloc (.cells #[.map (some (w.heap.size + 1))] 148)) := by
  have e1 := heap_alloc_new ((w.alloc (.cells #[ab K.q] 81)).alloc (.map #[] 0)) (.cells #[.map (some (w.heap.size + 1))] 148)
  simpa [Fx] using e1
 have HB := hide hB
 have H0 := hide h0
 have Bv := hide h1
 have H5 := hide h5
 clear hB h0 h1 h5
 refine callsIn_wide.1 (callsIn_of_wp_marks (n := 3) Tryz.func57 rfl trivial (wpIn_wide.2 ?_))
 simp only [Tryz.ntmps57, List.size_toArray, List.length_cons, List.length_nil, Nat.reduceAdd, Nat.reduceSub, Array.replicate_succ, Array.replicate_zero, List.push_toArray, List.append_toArray, List.nil_append, List.cons_append]
 go_upto_region 2 with fail
 generalize (((w.alloc (.cells #[ab K.q] 81)).alloc (.map #[] 0)).alloc (.cells #[.map (some (w.heap.size + 1))] 148)) = w2 at *
 obtain ⟨b0, BI⟩ : ∃ b, w.heap.size = b := ⟨_, rfl⟩
 obtain ⟨mb, Cb⟩ : ∃ b, w.heap.size + 1 = b := ⟨_, rfl⟩
 obtain ⟨b5, BM⟩ : ∃ b, w.heap.size + 1 + 1 = b := ⟨_, rfl⟩
 rw [BM] at H5 ⊢
 rw [Cb] at H5 Bv ⊢
 have Bu := hide (And.intro BI (And.intro Cb BM))
 clear Cb BM
 rw [BI] at H0 ⊢
 clear BI
 have AT := hide (lh w2 la m lc)
 go_wp2_with (go_at_call 96; refine AT.out.mono ?_; rintro _ wB ⟨bb, rfl, Bc, AZ, AW⟩; have Cd := hide Bc; have Ba := hide AZ; have CG := hide AW; clear Bc AZ AW AT)
 have Ax : Hid (w.heap.size = b0 ∧ w.heap.size + 1 = mb ∧ w.heap.size + 1 + 1 = b5 ∧ b5 < w2.heap.size ∧ w2.heap.size ≤ bb ∧ bb < wB.heap.size) := hide ⟨Bu.out.1, Bu.out.2.1, Bu.out.2.2, H5.out.lt, CG.out, Cd.out.lt⟩
 have Bw := hide (HB.out.trans (Ba.out.mono HB.out.size))
 have BZ := hide ((Ba.out.block mb (aS Bv.out)).trans Bv.out)
 have H5B := hide (H5.out.keep (Ba.out.block _ H5.out.lt))
 have H0B := hide (H0.out.keep (Ba.out.block _ H0.out.lt))
 have Ch := hide (fun X : World => jY)
 clear HB Ba H0 Bv H5 Bu CG Ch
 refine (wpIn_wide (n := 3)).1 ?_
 refine lS 6 7 (bb := bb) (len := m) (lc := lc) (la := la) (s := s) (p1 := 19) (p2 := 20) 3 (by omega) (by omega) rfl (enters_go Tryz.func133 (by kernel_rfl) (by kernel_rfl))
  (fun k W => k ≤ m ∧ sG mb (jO l k) (m - k) wB (fun _ => undef) W) ?hst ?hE ?hS ?h0 ?assign ?body ?done
 case hst =>
  rintro k W W' ⟨h1, h2, es, clock, h3, h4⟩ hb
  exact ⟨h1, tz h2 hb, es, clock, (hb.block mb (aS BZ.out)).trans h3, h4⟩
 case hE =>
  rintro k W ⟨h1, h2, -⟩
  have z := Ax.out
  refine ⟨(Cd.out.keep (h2.block _ Cd.out.lt (by omega))).get (i := 0) rfl, fun i hi => ?_⟩
  obtain ⟨g, o, e, hg, c0, c1, c2, c3, c4⟩ := Bq.out i (by rw [HM.out]; exact hi)
  have hk : W.heap[g]? = w.heap[g]? := (h2.block g (by omega) (by omega)).trans (Bw.out.block g hg)
  exact ⟨g, o, e, (World.cell?_of_block hk).trans c0, (World.cell?_of_block hk).trans c1, (World.cell?_of_block hk).trans c2, (World.cell?_of_block hk).trans c3, (World.cell?_of_block hk).trans c4⟩
 case hS => exact fun k W h => h.2.1.size
 case h0 => exact ⟨Nat.le_refl _, Fr.refl _ _, #[], 0, BZ.out, by have e : jO l m = fun _ _ => 0 := (by rw [← HM.out]; exact yq); rw [e, Nat.sub_self]; exact yY⟩
 case assign =>
  intro l' k W K hK
  simp only [List.setIfInBounds_toArray, List.set_cons_succ, List.set_cons_zero] at hK ⊢
  gi_wp2
  exact hK
 case body =>
  intro l' k b7 W hI hk CI CX
  obtain ⟨x, hx⟩ := am (l := l) (i := k) (by rw [HM.out]; exact hk)
  obtain ⟨q, j, hq, hj, CC, AX, CB⟩ := BR.out x (List.mem_of_getElem? hx)
  obtain ⟨e1, e2, -, -, -, -⟩ := Br.out k x hx
  have Di : s.q k = (q : Int) := e2.trans hq
  have DJ : s.t k = (j : Int) := e1.trans hj
  have DT : Hid (jO l k = lV (jO l (k + 1)) q j (k : Int)) := hide (vT hx hq hj)
  obtain ⟨-, An, es, clock, Cp, Cx⟩ := hI
  have Bk := hide An
  have Dm := hide Cx
  have Cq := hide Cp
  have CH := hide CI
  have CR := H5B.out.keep (An.block _ H5B.out.lt (by have := Ax.out; omega))
  have H5W := hide CR
  have HK := hide (And.intro hk (And.intro CX (And.intro CC CB)))
  clear hx hq hj e1 e2 An Cx Cp CI CR CC AX CB
  obtain ⟨V, hV⟩ : ∃ V, jO l k = V := ⟨_, rfl⟩
  obtain ⟨c, hc⟩ : ∃ c, m - k = c := ⟨_, rfl⟩
  have HV := hide hV
  have HC := hide hc
  clear hV hc
  have HDr := hide ((Below.refl W.heap.size W).drew)
  obtain ⟨W0, CL⟩ : ∃ W0, W.drew = W0 := ⟨_, rfl⟩
  rw [CL] at HDr
  have Ap : Hid (fK [some 21, some 22, some 23, some 24, some 25, some 26, some 27, none] [(5, ab b5), (7, ab b7), (6, .int .i64 (k : Int))] = true) := hide rfl
  have BH : Hid (∀ X, Below W0.heap.size W0 X → X.cell? ⟨b7, 0, none⟩ = some (.int .i64 (j : Int)) ∧ X.cell? ⟨b7, 1, none⟩ = some (.int .i64 (q : Int)) ∧ X.cell? ⟨b5, 0, none⟩ = some (.map (some mb))) := hide fun X hX => by
   have hb := HDr.out.trans (hX.mono HDr.out.size)
   have h7 := CH.out.keep (hb.block _ CH.out.lt)
   exact ⟨by rw [← DJ]; exact h7.get (i := 0) rfl, by rw [← Di]; exact h7.get (i := 1) rfl, (H5W.out.keep (hb.block _ H5W.out.lt)).get (i := 0) rfl⟩
  have DG : Hid (∀ X, Below W0.heap.size W0 X → ∃ Am Ad, (Instr.mapUpdate 148 (.map (some mb)) (pk q j) (.int .i64 (k : Int))).run Tryz.prog X = .ok () (setBlock X mb (.map Am Ad)) ∧ sG mb V c W0 (fun _ => undef) (setBlock X mb (.map Am Ad))) := hide fun X hX => by
   have hb := HDr.out.trans (hX.mono HDr.out.size)
   have BD : X.heap[mb]? = some (.map es clock) := (hb.block _ (aS Cq.out)).trans Cq.out
   obtain ⟨Am, Ad, hr, hM⟩ := yX BD Dm.out (s := q) (q := j) (by have := HK.out; omega) (by have := HK.out; omega) (by omega) (k : Int)
   refine ⟨Am, Ad, hr, (Fr.of_below hX).trans (re BD), Am, Ad, heap_setBlock_same BD _, ?_⟩
   rw [← HV.out, DT.out, ← HC.out, show m - k = m - (k + 1) + 1 by omega]
   exact hM
  have Ch : Hid (∀ X, Calls Tryz.prog 42 #[.int .i64 (q : Int), .int .i64 (j : Int)] X fun e w' => e = .returned (.agg #[.int .i64 (q : Int), .int .i64 (j : Int)]) ∧ Below X.heap.size X w') := hide fun X => jY _ _ X
  have Dw : Hid (∀ args w', (callFunc 42 args).run Tryz.prog w' = .ok (.enter 42 args) w') := hide (enters_go Tryz.func42 (by kernel_rfl) (by kernel_rfl))
  simp only [List.setIfInBounds_toArray, List.set_cons_succ, List.set_cons_zero, Nat.reduceSub]
  refine wpIn_block ?_
  refine oy (Jl 7 [some 21, some 22, some 23, some 24, some 25, some 26, some 27, none] [(5, ab b5), (7, ab b7), (6, .int .i64 (k : Int))] (oE b7 mb q j k) (sG mb V c W0) W0) ?hq (by kernel_rfl) (by kernel_rfl) (by kernel_rfl) ?_ (bT ⟨?_, ?_, ?_, ?_, ?_, ?_, ?_, ?_, trivial⟩) ?_
  case hq => rintro ⟨a, w, h⟩; exact h
  · refine ⟨fun _ => ?_, fun e => by cases e⟩
    show Jg _ _ _ W0 _ _ W.drew
    rw [CL]
    exact Jg.start.2 fun p hp => by simp at hp; rcases hp with rfl | rfl | rfl <;> rfl
  · intro ρ X L hc hf hL hd Ab Ac
    have Aa : L 7 = false := ah (by kernel_rfl) Ab (k := 0) (by simp) hL
    have hJ := Ac.1 Aa
    obtain ⟨c0, c1, c5⟩ := BH.out X hJ.low
    have k5 : ρ (.tmp 5) = ab b5 := hJ.base (5, ab b5) (by simp)
    refine aa (v := .map (some mb)) (w' := X) ?_ ⟨fun _ => hJ.put Ap.out bL (i := 0) (d := 21) rfl (Below.refl _ _) (rfl), fun e => by rw [aj (by decide), Aa] at e; cases e⟩
    clear hd Ab hJ Ac hL Aa
    go_simp
  · intro ρ X L hc hf hL hd Ab Ac
    have Aa : L 7 = false := ah (by kernel_rfl) Ab (k := 1) (by simp) hL
    have hJ := Ac.1 Aa
    have k7 : ρ (.tmp 7) = ab b7 := hJ.base (7, ab b7) (by simp)
    refine aa (v := .pointer (some ⟨b7, 1, none⟩)) (w' := X) ?_ ⟨fun _ => hJ.put Ap.out bL (i := 1) (d := 22) rfl (Below.refl _ _) (rfl), fun e => by rw [aj (by decide), Aa] at e; cases e⟩
    clear hd Ab hJ Ac hL Aa
    go_simp
  · intro ρ X L hc hf hL hd Ab Ac
    have Aa : L 7 = false := ah (by kernel_rfl) Ab (k := 2) (by simp) hL
    have hJ := Ac.1 Aa
    obtain ⟨c0, c1, c5⟩ := BH.out X hJ.low
    have Es : ρ (.tmp 22) = .pointer (some ⟨b7, 1, none⟩) := by
     obtain ⟨_, _, _, e1⟩ := hJ.get (i := 1) (d := 22) rfl (hd ⟨1, .data⟩ (by simp) rfl)
     exact e1
    refine aa (v := .int .i64 (q : Int)) (w' := X) ?_ ⟨fun _ => hJ.put Ap.out bL (i := 2) (d := 23) rfl (Below.refl _ _) (rfl), fun e => by rw [aj (by decide), Aa] at e; cases e⟩
    clear hd Ab hJ Ac hL Aa
    go_simp
  · intro ρ X L hc hf hL hd Ab Ac
    have Aa : L 7 = false := ah (by kernel_rfl) Ab (k := 3) (by simp) hL
    have hJ := Ac.1 Aa
    have k7 : ρ (.tmp 7) = ab b7 := hJ.base (7, ab b7) (by simp)
    refine aa (v := .pointer (some ⟨b7, 0, none⟩)) (w' := X) ?_ ⟨fun _ => hJ.put Ap.out bL (i := 3) (d := 24) rfl (Below.refl _ _) (rfl), fun e => by rw [aj (by decide), Aa] at e; cases e⟩
    clear hd Ab hJ Ac hL Aa
    go_simp
  · intro ρ X L hc hf hL hd Ab Ac
    have Aa : L 7 = false := ah (by kernel_rfl) Ab (k := 4) (by simp) hL
    have hJ := Ac.1 Aa
    obtain ⟨c0, c1, c5⟩ := BH.out X hJ.low
    have Ed : ρ (.tmp 24) = .pointer (some ⟨b7, 0, none⟩) := by
     obtain ⟨_, _, _, e1⟩ := hJ.get (i := 3) (d := 24) rfl (hd ⟨3, .data⟩ (by simp) rfl)
     exact e1
    refine aa (v := .int .i64 (j : Int)) (w' := X) ?_ ⟨fun _ => hJ.put Ap.out bL (i := 4) (d := 25) rfl (Below.refl _ _) (rfl), fun e => by rw [aj (by decide), Aa] at e; cases e⟩
    clear hd Ab hJ Ac hL Aa
    go_simp
  · intro ρ X L hc hf hL hd Ab Ac
    have Aa : L 7 = false := ah (by kernel_rfl) Ab (k := 5) (by simp) hL
    have hJ := Ac.1 Aa
    have Ee : ρ (.tmp 23) = .int .i64 (q : Int) := by
     obtain ⟨_, _, _, e1⟩ := hJ.get (i := 2) (d := 23) rfl (hd ⟨2, .data⟩ (by simp) rfl)
     exact e1
    have Em : ρ (.tmp 25) = .int .i64 (j : Int) := by
     obtain ⟨_, _, _, e1⟩ := hJ.get (i := 4) (d := 25) rfl (hd ⟨4, .data⟩ (by simp) rfl)
     exact e1
    have hC := Ch.out X
    have he := Dw.out #[.int .i64 (q : Int), .int .i64 (j : Int)] X
    refine eB (f := 42) (args := #[.int .i64 (q : Int), .int .i64 (j : Int)]) (w' := X) ?_ hC ?_
    · clear hd Ab hJ Ac hL Aa hC
      go_simp
    · rintro _ Y ⟨rfl, hb⟩
      exact ⟨_, rfl, fun _ => hJ.put Ap.out bL (i := 5) (d := 26) rfl hb (rfl), fun e => by rw [aj (by decide), Aa] at e; cases e⟩
  · intro ρ X L hc hf hL hd Ab Ac
    have Aa : L 7 = false := ah (by kernel_rfl) Ab (k := 6) (by simp) hL
    have hJ := Ac.1 Aa
    have k6 : ρ (.tmp 6) = .int .i64 (k : Int) := hJ.base (6, .int .i64 (k : Int)) (by simp)
    refine aa (v := .int .i64 (k : Int)) (w' := X) ?_ ⟨fun _ => hJ.put Ap.out bL (i := 6) (d := 27) rfl (Below.refl _ _) (rfl), fun e => by rw [aj (by decide), Aa] at e; cases e⟩
    clear hd Ab hJ Ac hL Aa
    go_simp
  · intro ρ X L hc hf hL hd Ab Ac
    have hJ := Ac.1 hL
    have Eh : ρ (.tmp 21) = .map (some mb) := by
     obtain ⟨_, _, _, e1⟩ := hJ.get (i := 0) (d := 21) rfl (hd ⟨0, .data⟩ (by simp) rfl)
     exact e1
    have Ef : ρ (.tmp 26) = pk q j := by
     obtain ⟨_, _, _, e1⟩ := hJ.get (i := 5) (d := 26) rfl (hd ⟨5, .data⟩ (by simp) rfl)
     exact e1
    have Ec : ρ (.tmp 27) = .int .i64 (k : Int) := by
     obtain ⟨_, _, _, e1⟩ := hJ.get (i := 6) (d := 27) rfl (hd ⟨6, .data⟩ (by simp) rfl)
     exact e1
    obtain ⟨Am, Ad, DZ, hF⟩ := DG.out X hJ.low
    have BE : Hid (sG mb V c W0 (fF (fun s => ρ (.tmp s)) none undef) (setBlock X mb (.map Am Ad))) := hide hF
    refine bN (w' := setBlock X mb (.map Am Ad)) ?_ ⟨fun e => (by rw [aG] at e; cases e), fun _ => BE.out⟩
    clear hd Ab hJ Ac hL BE hF
    go_simp
  · rintro ⟨Er, df⟩ w' Ej Ei ⟨L, hL, hJ⟩ Bf
    obtain ⟨hf, Am, Ad, Dx, Dk⟩ := hJ.2 (hL 7 (by decide))
    have BW : Fr (fun g => g = mb) W w' := (Fr.of_below HDr.out).trans hf
    refine ⟨⟨BW.size, fun i o hi h1 h2 => (BW.block i (aS h1) (by have := Ax.out; omega)).trans h1⟩, by have := HK.out; omega, Bk.out.trans BW, Am, Ad, Dx, ?_⟩
    rw [HV.out, HC.out]
    exact Dk
 case done =>
  intro D wC hD hI Av
  obtain ⟨-, AR, es, clock, Cu, Cv⟩ := hI
  have Cl := hide AR
  have By := hide Cu
  have CM := hide Cv
  have Bp := hide Av
  have CN := hide hD
  have Aj : Hid (Below w.heap.size w wC) := hide (Bw.out.trans (AR.below fun k hk => ⟨by have := Bw.out.size; omega, fun e => by have := Ax.out; omega⟩))
  have BY := hide (H5B.out.keep (AR.block _ H5B.out.lt (by have := Ax.out; omega)))
  have BL := hide (H0B.out.keep (AR.block _ H0B.out.lt (by have := Ax.out; omega)))
  have Dq := hide (HX.out.go Aj.out)
  clear AR Cu Cv Av hD Bw BZ H5B H0B
  have CE : Below wC.heap.size wC ((wC.alloc (.cells (Array.replicate m (.bool false)) 4)).alloc (.cells #[az wC.heap.size m] 106)) := (ac wC _).trans ((ac _ _).mono (by simp))
  have Cs : Fx wC.heap.size 4 (i7 m fun _ => false) ((wC.alloc (.cells (Array.replicate m (.bool false)) 4)).alloc (.cells #[az wC.heap.size m] 106)) := by
   have e1 : Fx wC.heap.size 4 (i7 m fun _ => false) (wC.alloc (.cells (Array.replicate m (.bool false)) 4)) := by unfold Fx i7; rw [heap_alloc_new]; simp [List.map_const']
   exact e1.keep ((ac _ _).block _ e1.lt)
  have CU : Fx (wC.heap.size + 1) 106 [az wC.heap.size m] ((wC.alloc (.cells (Array.replicate m (.bool false)) 4)).alloc (.cells #[az wC.heap.size m] 106)) := by
   have e1 := heap_alloc_new (wC.alloc (.cells (Array.replicate m (.bool false)) 4)) (.cells #[az wC.heap.size m] 106)
   simpa [Fx] using e1
  have Ak := hide CE
  have AQ := hide Cs
  have AN := hide CU
  clear CE Cs CU
  go_upto_region 7 with fail
  generalize ((wC.alloc (.cells (Array.replicate m (.bool false)) 4)).alloc (.cells #[az wC.heap.size m] 106)) = w4 at *
  obtain ⟨wm, BJ⟩ : ∃ b, wC.heap.size = b := ⟨_, rfl⟩
  obtain ⟨b8, BC⟩ : ∃ b, wC.heap.size + 1 = b := ⟨_, rfl⟩
  rw [BC] at AN ⊢
  rw [BJ] at AQ AN ⊢
  have BS := hide (And.intro BJ BC)
  clear BC BJ
  have Cw := ac w4 (.cells #[.func (.func 97) #[] #[ab b8, ab b5]] 87)
  have CO : Fx w4.heap.size 87 [.func (.func 97) #[] #[ab b8, ab b5]] (w4.alloc (.cells #[.func (.func 97) #[] #[ab b8, ab b5]] 87)) := heap_alloc_new w4 _
  have Ar := hide Cw
  have Az := hide CO
  clear Cw CO
  go_upto_region 8 with fail
  generalize w4.alloc (.cells #[.func (.func 97) #[] #[ab b8, ab b5]] 87) = w5 at *
  obtain ⟨b9, Ci⟩ : ∃ b, w4.heap.size = b := ⟨_, rfl⟩
  have CK := hide Ci
  rw [Ci] at Az ⊢
  clear Ci
  have AJ : Hid (Below wC.heap.size wC w5) := hide (Ak.out.trans (Ar.out.mono Ak.out.size))
  have Ae : Hid (b9 < w5.heap.size ∧ b8 < w4.heap.size ∧ wm < w4.heap.size ∧ b9 = w4.heap.size ∧ wm = wC.heap.size ∧ b8 = wC.heap.size + 1) := hide ⟨Az.out.lt, AN.out.lt, AQ.out.lt, CK.out.symm, BS.out.1.symm, BS.out.2.symm⟩
  obtain ⟨n1, Ct⟩ : ∃ n1, m = n1 + 1 := ⟨m - 1, by omega⟩
  have BG : n1 < m := by omega
  have e1 : IntKind.i64.wrap ((m : Int) - 1) = (n1 : Int) := by rw [IntKind.wrap_i64]; omega
  have Dn := hide Ct
  obtain ⟨x1, AO⟩ := am (l := l) (i := n1) (by rw [HM.out]; exact BG)
  obtain ⟨q1, j1, Cf, AX, BB, Ca, Cc⟩ := BR.out x1 (List.mem_of_getElem? AO)
  obtain ⟨z1, z2, -, -, -, -⟩ := Br.out n1 x1 AO
  have DA := hide AO
  have AH : Hid (s.q n1 = (q1 : Int) ∧ s.t n1 = (j1 : Int) ∧ x1.lit = (q1 : Int) ∧ x1.tag = (j1 : Int) ∧ q1 < K.n ∧ 1 ≤ j1 ∧ j1 ≤ 4) := hide ⟨z2.trans Cf, z1.trans AX, Cf, AX, BB, Ca, Cc⟩
  clear Ct AO Cf AX BB Ca Cc z1 z2
  obtain ⟨g1, o1, rfl, Dl, c0, c1, c2, c3, c4⟩ := Bq.out n1 (by rw [HM.out]; exact BG)
  have AL : w5.heap[g1]? = w.heap[g1]? := (AJ.out.block g1 (by have := Aj.out.size; omega)).trans (Aj.out.block g1 Dl)
  have d0 := (World.cell?_of_block (a := ⟨g1, o1 + n1 * 5, none⟩) AL).trans c0
  have d1 := (World.cell?_of_block (a := ⟨g1, o1 + n1 * 5 + 1, none⟩) AL).trans c1
  have d2 := (World.cell?_of_block (a := ⟨g1, o1 + n1 * 5 + 2, none⟩) AL).trans c2
  have d3 := (World.cell?_of_block (a := ⟨g1, o1 + n1 * 5 + 3, none⟩) AL).trans c3
  have d4 := (World.cell?_of_block (a := ⟨g1, o1 + n1 * 5 + 4, none⟩) AL).trans c4
  clear AL c0 c1 c2 c3 c4
  have BX : Fx w5.heap.size 32 (s.l n1) (w5.alloc (.cells (s.l n1).toArray 32)) := heap_alloc_new w5 _
  have AP := hide BX
  have Dg := hide (AJ.out.trans ((ac w5 (.cells (s.l n1).toArray 32)).mono AJ.out.size))
  clear BX
  go_upto_region 9 with fail
  change Code.wp _ _ _ _ (w5.alloc (.cells (s.l n1).toArray 32))
  clear d0 d1 d2 d3 d4
  have Ao := hide (ac w5 (.cells (s.l n1).toArray 32))
  generalize w5.alloc (.cells (s.l n1).toArray 32) = w6 at *
  obtain ⟨CV, Bd⟩ : ∃ b, w5.heap.size = b := ⟨_, rfl⟩
  have Dd := hide Bd
  rw [Bd] at AP ⊢
  clear Bd
  have Ce : Hid (LI b5 b8 wm mb l m (fun _ => false) w6) := hide (by
   have h1 := Ar.out.trans (Ao.out.mono Ar.out.size)
   have h2 := Ak.out.trans (h1.mono Ak.out.size)
   exact ⟨AQ.out.keep (h1.block _ AQ.out.lt), AN.out.keep (h1.block _ AN.out.lt), BY.out.keep (h2.block _ BY.out.lt), es, clock, _, (h2.block _ (aS By.out)).trans By.out, CM.out⟩)
  have WN := hide (fun W0 : Nat → Bool => vZ (n := K.n) (b5 := b5) (b8 := b8) (wm := wm) (mb := mb) (m := m) (l := l) (W0 := W0) Dj (by omega) HM.out (by omega))
  have Cr : Hid (Calls Tryz.prog 97 #[.int .i64 (q1 : Int), .int .i64 (j1 : Int), ab b8, ab b5] w6 fun e w' => e = .returned (.tuple #[]) ∧ ∃ Z2, Pz (vf b5 b8 wm mb l m fun _ => false) (fun k => k = wm) w6 Z2 [((q1 : Int), (j1 : Int))] w') := hide (by
   obtain ⟨k, Ea, e, -, hc⟩ := (WN.out fun _ => false).call
   cases e
   exact hc (fun k => k = wm) [] w6 _ _ ⟨rfl, Ce.out⟩ ⟨by omega, by have := AH.out; omega, by have := AH.out; unfold au; omega⟩)
  have f0 : w6.cell? ⟨CV, 0, none⟩ = some (.int .i64 (j1 : Int)) := by rw [← AH.out.2.1]; exact AP.out.get (i := 0) rfl
  have f1 : w6.cell? ⟨CV, 1, none⟩ = some (.int .i64 (q1 : Int)) := by rw [← AH.out.1]; exact AP.out.get (i := 1) rfl
  have f9 := (Az.out.keep (Ao.out.block _ Az.out.lt)).get (i := 0) rfl
  go_upto_region 9 with fail
  go_wp2_with fail
  refine Cr.out.mono ?_
  rintro _ w7 ⟨rfl, Z7, CD⟩
  have AE := hide CD
  clear CD Cr f0 f1 f9 AP
  obtain ⟨W1, BF⟩ : ∃ W1, eY l (fun _ => false) [((q1 : Int), (j1 : Int))] = W1 := ⟨_, rfl⟩
  have Dy := hide BF
  have Cg : Hid (LI b5 b8 wm mb l m W1 w7) := hide (by rw [← BF]; exact AE.out.inv.2)
  clear BF
  have AT := hide (lh w7 (some ⟨g1, o1, none⟩) m lc)
  go_wp2_with (go_at_call 96; refine AT.out.mono ?_; rintro _ wD ⟨b2, rfl, Bc, AZ, AW⟩; have Bx := hide Bc; have Au := hide AZ; have BO := hide AW; clear Bc AZ AW AT)
  have BV : Hid (∀ g, g < wC.heap.size → wD.heap[g]? = wC.heap[g]?) := hide fun g hg => by
   have z := Ae.out
   have s4 := Ak.out.size
   have s5 := Ar.out.size
   have s6 := Ao.out.size
   have s7 := AE.out.fr.size
   rw [Au.out.block g (by omega), AE.out.fr.block g (by omega) (by omega), Ao.out.block g (by omega), AJ.out.block g hg]
  have AG : Hid (wC.heap.size ≤ w4.heap.size ∧ w4.heap.size ≤ w5.heap.size ∧ w5.heap.size ≤ w6.heap.size ∧ w6.heap.size ≤ w7.heap.size ∧ w7.heap.size ≤ wD.heap.size ∧ w7.heap.size ≤ b2 ∧ b2 < wD.heap.size) := hide ⟨Ak.out.size, Ar.out.size, Ao.out.size, AE.out.fr.size, Au.out.size, BO.out, Bx.out.lt⟩
  have AB : Hid (Below w.heap.size w wD) := hide (by
   have h1 := Aj.out.trans (AJ.out.mono Aj.out.size)
   have h2 := h1.trans (Ao.out.mono h1.size)
   have h3 := h2.trans (show Below w.heap.size w6 w7 from AE.out.fr.below fun k hk => ⟨by have := h2.size; omega, fun e => by have := Ae.out; have := Aj.out.size; omega⟩)
   exact h3.trans (Au.out.mono h3.size))
  have Bg := hide (Cg.out.go Au.out)
  have H9D : Hid (Fx b9 87 [.func (.func 97) #[] #[ab b8, ab b5]] wD) := hide (((Az.out.keep (Ao.out.block _ Az.out.lt)).keep (AE.out.fr.block _ (by have := Ae.out; have := AG.out; omega) (by have := Ae.out; omega))).keep (Au.out.block _ (by have := Ae.out; have := AG.out; omega)))
  have H0D := hide (BL.out.keep (BV.out _ BL.out.lt))
  have BK := hide ((BV.out _ (aS Bp.out)).trans Bp.out)
  have Bi : Hid (D < wC.heap.size) := hide (aS Bp.out)
  clear Ak Ar Ao AQ AN Az Ce AE Au BO Cg AJ Dg BL BY By CM Bp Dq BS CK Dd
  refine (wpIn_wide (n := 3)).1 ?_
  refine lS 11 12 (bb := b2) (len := m) (lc := lc) (la := some ⟨g1, o1, none⟩) (s := s) (p1 := 46) (p2 := 47) 3 (by omega) (by omega) rfl (enters_go Tryz.func133 (by kernel_rfl) (by kernel_rfl))
   (fun k W => k ≤ m ∧ Fr (fun g => g = wm) wD W ∧ ∃ Wk, eX T l m W1 = eX T l k Wk ∧ LI b5 b8 wm mb l m Wk W) ?hst ?hE ?hS ?h0 ?assign ?body ?done
  case hst =>
   rintro k W W' ⟨h1, h2, Wk, h3, h4⟩ hb
   exact ⟨h1, tz h2 hb, Wk, h3, h4.keep fun g hg => hb.block g (by
    have := Bg.out.lt
    rcases hg with rfl | rfl | rfl | rfl <;> omega)⟩
  case hE =>
   rintro k W ⟨h1, h2, -⟩
   have z := Ae.out
   have z2 := AG.out
   refine ⟨(Bx.out.keep (h2.block _ Bx.out.lt (by omega))).get (i := 0) rfl, fun i hi => ?_⟩
   obtain ⟨g, o, e, hg, c0, c1, c2, c3, c4⟩ := Bq.out i (by rw [HM.out]; exact hi)
   have hk : W.heap[g]? = w.heap[g]? := (h2.block g (by have := AB.out.size; omega) (by have := Aj.out.size; omega)).trans (AB.out.block g hg)
   exact ⟨g, o, e, (World.cell?_of_block hk).trans c0, (World.cell?_of_block hk).trans c1, (World.cell?_of_block hk).trans c2, (World.cell?_of_block hk).trans c3, (World.cell?_of_block hk).trans c4⟩
  case hS => exact fun k W h => h.2.1.size
  case h0 => exact ⟨Nat.le_refl _, Fr.refl _ _, W1, rfl, Bg.out⟩
  case assign =>
   intro l' k W K hK
   simp only [List.setIfInBounds_toArray, List.set_cons_succ, List.set_cons_zero] at hK ⊢
   gi_wp2
   exact hK
  case body =>
   intro l' k AY W hI hk At DV
   obtain ⟨-, An, Wk, Cj, AM⟩ := hI
   obtain ⟨x, hx⟩ := am (l := l) (i := k) (by rw [HM.out]; exact hk)
   obtain ⟨e1, e2, e3, e4, e5, AF⟩ := Br.out k x hx
   have CQ : Below w.heap.size w W := AB.out.trans (An.below fun i hi => ⟨by have := AB.out.size; omega, fun e => by have := Ae.out; have := Aj.out.size; omega⟩)
   have Bs : Hid (eX T l (k + 1) Wk = eX T l k (if Wk k then eY l Wk (formM T x).2 else Wk)) := hide (by show eX T l k (if Wk k then (match l[k]? with | some s => eY l Wk (formM T s).2 | none => Wk) else Wk) = _; rw [hx])
   have c8 := AM.b8.get (i := 0) rfl
   have cw := AM.wx.get (jG hk)
   have Dc := hide AM
   have Bk := hide An
   have Bm := hide Cj
   have CA := hide hk
   simp only [List.setIfInBounds_toArray, List.set_cons_succ, List.set_cons_zero, Nat.reduceSub]
   cases hwk : Wk k with
   | false =>
    rw [hwk] at cw
    have HE : Hid (eX T l m W1 = eX T l k Wk) := hide (by rw [Bm.out, Bs.out, hwk]; rfl)
    clear hwk Bs Bm hx AF AM An Cj e1 e2 e3 e4 e5
    refine wpIn_block ?_
    gi_wp2
    exact ⟨⟨Nat.le_refl _, fun i o _ h1 _ => h1⟩, by have := CA.out; omega, Bk.out, Wk, HE.out, Dc.out⟩
   | true =>
    rw [hwk] at cw
    have HE : Hid (eX T l m W1 = eX T l k (eY l Wk (formM T x).2)) := hide (by rw [Bm.out, Bs.out, hwk]; rfl)
    obtain ⟨g3, o3, DE, DN, -, -, -, -, -, -, -, Ab, -, AV, Bb⟩ := HL.out k x hx
    have C := hide (lN (K := K) (T := T) (Inv := vf b5 b8 wm mb l m Wk) (Z := fun k => k = wm) (w := W) (l := []) (tag := x.tag) (lit := x.lit) (how := x.how) (rule := x.rule) (ch := x.ch) (ca := s.a k) (cc := s.c k) HT.out (HX.out.go CQ) ⟨rfl, AM⟩ (fun i hi => ⟨fun hs => by have := HX.out.lt i hs; have := Ae.out; have := Aj.out.size; omega, by have := HX.out.n0; have := Ae.out; have := Aj.out.size; omega⟩) (WN.out Wk) AV Bb Ab (AF.keep fun g hg => CQ.block g hg).chs (fun g o e hne => fun e2 => by
     obtain ⟨c0, Ds⟩ := am (l := x.ch) (i := 0) (by cases hz : x.ch with | nil => exact absurd hz hne | cons => simp)
     obtain ⟨g', o', e', hg', -, -⟩ := AF 0 c0 Ds
     rw [e] at e'
     cases e'
     have := Ae.out
     have := Aj.out.size
     omega))
    have t0 : W.cell? ⟨AY, 0, none⟩ = some (.int .i64 x.tag) := by rw [← e1]; exact At.get (i := 0) rfl
    have t1 : W.cell? ⟨AY, 1, none⟩ = some (.int .i64 x.lit) := by rw [← e2]; exact At.get (i := 1) rfl
    have t2 : W.cell? ⟨AY, 2, none⟩ = some (.int .i64 x.how) := by rw [← e3]; exact At.get (i := 2) rfl
    have t3 : W.cell? ⟨AY, 3, none⟩ = some (.int .i64 x.rule) := by rw [← e4]; exact At.get (i := 3) rfl
    have t4 : W.cell? ⟨AY, 4, none⟩ = some (.slice (s.a k) x.ch.length (s.c k)) := by rw [← e5]; exact At.get (i := 4) rfl
    have f9 := (H9D.out.keep (An.block _ H9D.out.lt (by have := Ae.out; omega))).get (i := 0) rfl
    have f0 := (H0D.out.keep (An.block _ H0D.out.lt (by have := Ax.out; have := Ae.out; have := Cl.out.size; omega))).get (i := 0) rfl
    clear hwk Bs Bm hx AF AM An Cj e1 e2 e3 e4 e5 Ab AV Bb At
    obtain ⟨fm, BU⟩ : ∃ z, formM T ⟨x.tag, x.lit, x.how, x.rule, x.ch⟩ = z := ⟨_, rfl⟩
    rw [BU] at C
    have DS : Hid (eX T l m W1 = eX T l k (eY l Wk fm.2)) := hide (by rw [← BU]; exact HE.out)
    obtain ⟨Ah, Ai, Ag, Af, AA⟩ := x
    simp only at C t0 t1 t2 t3 t4
    clear BU HE
    refine wpIn_block ?_
    gi_wp2_with (refine ⟨trivial, ?_⟩; gi_at_call 40; refine (CallsIn.inRound l' (callsIn_wide.2 C.out)).mono ?_; rintro _ w8 ⟨rfl, Z8, CP⟩; have Bo := hide CP; clear CP C)
    exact ⟨⟨Bo.out.fr.size, fun i o hi h1 h2 => (Bo.out.fr.block i (aS h1) (by have := Ae.out; have := AG.out; omega)).trans h1⟩, by have := CA.out; omega, Bk.out.trans Bo.out.fr, _, DS.out, Bo.out.inv.2⟩
  case done =>
   intro D2 wE Dr hI Av
   obtain ⟨-, BN, Wf, Cy, AC⟩ := hI
   have DC : Hid (jt T l = eG Wf 0 l) := hide (by
    have AO := DA.out
    unfold jt
    rw [HM.out, show m - 1 = n1 by have := Dn.out; omega, AO]
    show eG (eX T l m (eY l (fun _ => false) [(x1.lit, x1.tag)])) 0 l = _
    rw [AH.out.2.2.1, AH.out.2.2.2.1, Dy.out, Cy]
    rfl)
   have Aw : Hid (Below w.heap.size w wE) := hide (AB.out.trans (BN.below fun i hi => ⟨by have := AB.out.size; omega, fun e => by have := Ae.out; have := Aj.out.size; omega⟩))
   have DU : Hid (wE.heap[D]? = some (.deferred (some []))) := hide ((BN.block D (by have := AG.out; have := Bi.out; omega) (by have := Ae.out; have := Bi.out; omega)).trans BK.out)
   have HD2E := hide Av
   have AD : Hid (D < D2 ∧ D2 < wE.heap.size ∧ w.heap.size ≤ D) := hide ⟨by have := Bi.out; have := AG.out; omega, aS Av, by have := CN.out; have := Ax.out; omega⟩
   have BT := hide AC.wx
   have HB8E := hide AC.b8
   have En : Hid (wm < wE.heap.size ∧ b8 < wE.heap.size) := hide ⟨AC.wx.lt, AC.b8.lt⟩
   obtain ⟨iC, Dp, DP, Do, DK⟩ := info_parts qy
   obtain ⟨iS, DM, Dz, DO, Dt⟩ := info_parts rR
   clear BN Cy AC Av Dr AB BV Bg H9D H0D BK AG Cl Aj Bx Bi CN BR
   go_wp2_with fail
   go_loopw [13, 58] (fun u x wr => ∃ (k n : Nat) (tl : List StM) (ma : Option Addr) (mc : Nat), k ≤ m ∧ n ≤ k ∧ Hid (tl.length = n) ∧ x = .int .i64 k ∧ u = .slice ma n mc ∧ Hid (Gy 32 5 jn wE.heap.size tl (.slice ma n mc) wr) ∧ Hid (eG Wf 0 l = tl ++ eG Wf k (l.drop k)) ∧ Hid (Below wE.heap.size wE wr)) (fun _ x _ => m - (intOf x).toNat)
   case atStart => exact ⟨0, 0, [], none, 0, by omega, by omega, hide rfl, rfl, rfl, hide Gy.nil, hide (by rw [List.drop_zero]; rfl), hide (Below.refl _ _)⟩
   case round =>
    obtain ⟨k, n, tl, ma, mc, hk, El, Bj, rfl, rfl, HG, AK, Aq⟩ := hrel
    by_cases hlt : k < m
    · obtain ⟨x, hx⟩ := am (l := l) (i := k) (by rw [HM.out]; exact hlt)
      obtain ⟨e1, e2, e3, e4, e5, AF⟩ := Br.out k x hx
      obtain ⟨g3, o3, DE, DN, -, -, -, -, -, -, -, Ab, -, AV, Bb⟩ := HL.out k x hx
      obtain ⟨g, o, DR, hg, c0, c1, c2, c3, c4⟩ := Bq.out k (by rw [HM.out]; exact hlt)
      cases DR
      have AI : wr.heap[g1]? = w.heap[g1]? := (Aq.out.block g1 (by have := Aw.out.size; omega)).trans (Aw.out.block g1 hg)
      have d0 := (World.cell?_of_block (a := ⟨g1, o1 + k * 5, none⟩) AI).trans c0
      have d1 := (World.cell?_of_block (a := ⟨g1, o1 + k * 5 + 1, none⟩) AI).trans c1
      have d2 := (World.cell?_of_block (a := ⟨g1, o1 + k * 5 + 2, none⟩) AI).trans c2
      have d3 := (World.cell?_of_block (a := ⟨g1, o1 + k * 5 + 3, none⟩) AI).trans c3
      have d4 := (World.cell?_of_block (a := ⟨g1, o1 + k * 5 + 4, none⟩) AI).trans c4
      rw [e1] at d0
      rw [e2] at d1
      rw [e3] at d2
      rw [e4] at d3
      rw [e5] at d4
      have Bt : Hid (eG Wf k (l.drop k) = if Wf k then x :: eG Wf (k + 1) (l.drop (k + 1)) else eG Wf (k + 1) (l.drop (k + 1))) := hide (by rw [bf hx]; rfl)
      have hA := ac wr (.cells #[.int .i64 x.tag, .int .i64 x.lit, .int .i64 x.how, .int .i64 x.rule, .slice (s.a k) x.ch.length (s.c k)] 32)
      have hQ : Fx wr.heap.size 32 [.int .i64 x.tag, .int .i64 x.lit, .int .i64 x.how, .int .i64 x.rule, .slice (s.a k) x.ch.length (s.c k)] (wr.alloc (.cells #[.int .i64 x.tag, .int .i64 x.lit, .int .i64 x.how, .int .i64 x.rule, .slice (s.a k) x.ch.length (s.c k)] 32)) := heap_alloc_new wr _
      have Bn : Hid (Src Tryz.prog 2 30 (.slice (s.a k) x.ch.length (s.c k)) x.ch.length (prs x.ch) (wr.alloc (.cells #[.int .i64 x.tag, .int .i64 x.lit, .int .i64 x.how, .int .i64 x.rule, .slice (s.a k) x.ch.length (s.c k)] 32))) := hide (yA ((AF.keep (w' := wr.alloc (.cells #[.int .i64 x.tag, .int .i64 x.lit, .int .i64 x.how, .int .i64 x.rule, .slice (s.a k) x.ch.length (s.c k)] 32)) fun g hg => (hA.block g (by have := Aq.out.size; have := Aw.out.size; omega)).trans ((Aq.out.block g (by have := Aw.out.size; omega)).trans (Aw.out.block g hg))).chs))
      have HA := hide hA
      have HQ := hide hQ
      have Eo := hide (And.intro AV Bb)
      have Bz := DF.out x (List.mem_of_getElem? hx)
      clear AI c0 c1 c2 c3 c4 e1 e2 e3 e4 e5 AF hx hA hQ AV Bb
      obtain ⟨Ah, Ai, Ag, Af, AA⟩ := x
      simp only at d0 d1 d2 d3 d4 Bn HQ HA Ab Bz
      have Eb : Hid (Exists fun z : StM => z = ⟨Ah, Ai, Ag, Af, AA⟩) := hide ⟨_, rfl⟩
      obtain ⟨cn, BP⟩ : ∃ c, AA.length = c := ⟨_, rfl⟩
      have CW := hide BP
      rw [BP] at d4 Bn HQ HA Ab Bz
      clear BP
      go_upto_region 19 with fail
      clear d0 d1 d2 d3 d4
      generalize wr.alloc (.cells #[.int .i64 Ah, .int .i64 Ai, .int .i64 Ag, .int .i64 Af, .slice (s.a k) cn (s.c k)] 32) = w1 at *
      obtain ⟨As, Be⟩ : ∃ b, wr.heap.size = b := ⟨_, rfl⟩
      have Db := hide Be
      rw [Be] at HQ ⊢
      clear Be
      have AU := hide (Aq.out.trans (HA.out.mono Aq.out.size))
      have c8 := (HB8E.out.keep (AU.out.block _ HB8E.out.lt)).get (i := 0) rfl
      have cw := (BT.out.keep (AU.out.block _ BT.out.lt)).get (jG hlt)
      cases hwk : Wf k with
      | false =>
       rw [hwk] at cw
       have HE : Hid (eG Wf 0 l = tl ++ eG Wf (k + 1) (l.drop (k + 1))) := hide (by rw [AK.out, Bt.out, hwk]; rfl)
       have DD := hide (HG.out.keep ii (wd := w1) (fun g h1 h2 => HA.out.block g h2) HA.out.size)
       clear hwk Bt AK HG
       go_wp2_with fail
       go_roundw
       case rel => exact ⟨k + 1, n, tl, ma, mc, by omega, by omega, Bj, by go_num, rfl, DD, HE, AU⟩
       case measure => simp [intOf]; omega
      | true =>
       rw [hwk] at cw
       have HE : Hid (eG Wf 0 l = (tl ++ [⟨Ah, Ai, Ag, Af, AA⟩]) ++ eG Wf (k + 1) (l.drop (k + 1))) := hide (by rw [AK.out, Bt.out, hwk, List.append_assoc]; rfl)
       clear hwk Bt AK
       have k4 := HQ.out.get (i := 4) rfl
       have CF : Hid (w1.ownsRow w1.heap.size 100 2 (.slice none 0 0) 0 []) := hide ⟨rfl, .inl ⟨rfl, rfl⟩⟩
       go_upto_region 20 with fail
       go_upto_region 21 with (at_builtin; go_must (refine lJ _ (Nat.le_refl _) (by rfl) _ _ 30 30 rfl 100 iC _ 2 16 Tryz.underlying30 Dp DP Do DK rfl (.slice none 0 0) 0 [] rfl CF.out (.slice (s.a k) cn (s.c k)) cn (prs AA) rfl Bn.out (by unfold maxLen; omega) (by omega) ?_); intro v4 w4 Ay CJ CZ; rw [Nat.zero_add, List.nil_append] at Ay; obtain ⟨a4, c4, rfl⟩ := cq Ay; have CT := hide Ay; have Ak : Hid (Below w1.heap.size w1 w4) := hide ((Fr.of_grown (Z := fun _ => False) CJ (fun k e => by simp [Value.ownBlock] at e)).below fun k hk => ⟨hk, fun h => h⟩); have Bl := hide (HQ.out.keep (Ak.out.block _ HQ.out.lt)); have z4 := Bl.out.frz 4; have y4 := Bl.out.get (i := 4) rfl; clear Ay CJ CZ)
       have AS : Hid (Fx As 32 [.int .i64 Ah, .int .i64 Ai, .int .i64 Ag, .int .i64 Af, .slice a4 cn c4] (w4.setCell ⟨As, 4, none⟩ (.slice a4 cn c4))) := hide (Bl.out.set 4 (.slice a4 cn c4))
       have DW := HQ.out.lt
       have BQ := hide (owns_keep (w' := w4.setCell ⟨As, 4, none⟩ (.slice a4 cn c4)) CT.out fun g hg => other_set (by have := (CT.out.lt g hg).1; omega))
       have s1 := HA.out.size
       have s4 := Ak.out.size
       have s5 := Aq.out.size
       have Ek := Db.out
       have DX : w4.heap.size ≤ (w4.setCell ⟨As, 4, none⟩ (.slice a4 cn c4)).heap.size := by simp
       have Cm : Hid (∀ g, wE.heap.size ≤ g → g < wr.heap.size → (w4.setCell ⟨As, 4, none⟩ (.slice a4 cn c4)).heap[g]? = wr.heap[g]?) := hide fun g h1 h2 => by
        rw [other_set (by omega), Ak.out.block g (by omega), HA.out.block g h2]
       have Ar : Hid (Below wE.heap.size wE (w4.setCell ⟨As, 4, none⟩ (.slice a4 cn c4))) := hide ((AU.out.trans (Ak.out.mono AU.out.size)).setCell (p := ⟨As, 4, none⟩) (by show wE.heap.size ≤ As; omega) _)
       clear k4 z4 y4 c8 cw Bl HQ CF Bn
       generalize w4.setCell ⟨As, 4, none⟩ (.slice a4 cn c4) = w5 at *
       have f0 := AS.out.get (i := 0) rfl
       have f1 := AS.out.get (i := 1) rfl
       have f2 := AS.out.get (i := 2) rfl
       have f3 := AS.out.get (i := 3) rfl
       have f4 := AS.out.get (i := 4) rfl
       obtain ⟨Z, xs, Al, hz, Bf⟩ := HG.out
       rw [Bj.out] at Al
       have Ck := hide Al
       have HZ := hide hz
       have CY := hide Bf
       have Da := hide (owns_keep Al fun g hg => ((ac w5 (.cells #[.int .i64 Ah, .int .i64 Ai, .int .i64 Ag, .int .i64 Af, .slice a4 cn c4] 32)).block g (by have := (Al.lt g hg).2; omega)).trans (Cm.out g (Al.lt g hg).1 (Al.lt g hg).2))
       have Du : Hid (∀ g, Value.ownBlock (.slice ma n mc) = some g → wE.heap.size ≤ g) := hide fun g e => (Al.lt g e).1
       clear Al hz Bf HG
       go_wp2_with (at_builtin; go_must (refine bC _ rfl _ _ 27 rfl wE.heap.size 32 iS _ 5 56 Tryz.underlying27 DM Dz DO Dt rfl (by decide) (.slice ma n mc) n xs rfl Da.out ⟨w5.heap.size, 0, none⟩ 1 [.int .i64 Ah, .int .i64 Ai, .int .i64 Ag, .int .i64 Af, .slice a4 cn c4] rfl rfl (lA (cs := [.int .i64 Ah, .int .i64 Ai, .int .i64 Ag, .int .i64 Af, .slice a4 cn c4]) rfl) (by intro u hu; simp at hu; rcases hu with rfl | rfl | rfl | rfl | rfl <;> rfl) (by unfold maxLen; omega) (by omega) (by simp; omega) ?_); intro g4 BA w6 Bh Co; have Dh := hide Bh; have Cz := hide Co; clear Bh Co)
       have DI : Hid (Fr (fun k => wE.heap.size ≤ k) w5 w6) := hide (dv rfl (by rcases Cz.out with h | ⟨h1, h2⟩; exact .inl h; exact .inr ⟨by simpa using h1, h2⟩) Du.out)
       have DQ : Hid (Gy 32 5 jn wE.heap.size (tl ++ [⟨Ah, Ai, Ag, Af, AA⟩]) (.slice (some ⟨g4, 0, none⟩) (n + 1) BA) w6) := hide (Gy.grow (Zn := fun g => Value.ownBlock (.slice a4 cn c4) = some g) ii Bj.out Ck.out HZ.out CY.out Cm.out (by omega) (by omega) (fun g hg => ⟨by have := (BQ.out.lt g hg).1; omega, (BQ.out.lt g hg).2⟩) ⟨.slice a4 cn c4, rfl, rZ (by rw [CW.out]; exact BQ.out) (fun g e => e) (by rw [CW.out]; exact Ab)⟩ rfl Dh.out (by rcases Cz.out with h | ⟨h1, h2⟩; exact .inl h; exact .inr ⟨by simpa using h1, h2⟩))
       have Ao : Hid (Below wE.heap.size wE w6) := hide (Ar.out.trans (DI.out.below fun k hk => ⟨by have := Ar.out.size; omega, by omega⟩))
       go_roundw
       case rel => exact ⟨k + 1, n + 1, tl ++ [⟨Ah, Ai, Ag, Af, AA⟩], some ⟨g4, 0, none⟩, BA, by omega, by omega, hide (by rw [List.length_append, Bj.out]; rfl), by go_num, rfl, DQ, HE, Ao⟩
       case measure => simp [intOf]; omega
    · have HE : Hid (jt T l = tl) := hide (by rw [DC.out, AK.out, List.drop_eq_nil_of_le (by rw [HM.out]; omega)]; unfold eG; rw [List.append_nil])
      have Df := hide ((Aq.out.block D (by have := AD.out; omega)).trans DU.out)
      have HD2E2 := hide ((Aq.out.block D2 (by have := AD.out; omega)).trans HD2E.out)
      clear AK
      go_wp2_with fail
      refine ⟨by simp, .inl ⟨_, _, rfl, run_takeDeferred HD2E2.out, ?_⟩⟩
      have De : Hid ((wr.putObj D2 (.deferred none)).heap[D]? = some (.deferred (some []))) := hide ((World.putObj_heap_other (by have := AD.out; omega)).trans Df.out)
      refine ⟨by simp, .inl ⟨_, _, rfl, run_takeDeferred De.out, ?_⟩⟩
      refine ⟨.slice ma n mc, by simp [results, go_sem], .slice ma n mc, rfl, ?_, ?_⟩
      · rw [HE.out]
        have hk : ∀ g, wE.heap.size ≤ g → ((wr.putObj D2 (.deferred none)).putObj D (.deferred none)).heap[g]? = wr.heap[g]? := fun g hg => by
         rw [World.putObj_heap_other (by have := AD.out; omega), World.putObj_heap_other (by have := AD.out; omega)]
        exact (HG.out.keep ii (fun g h1 _ => hk g h1) (by simp)).down Aw.out.size
      · have h1 := Aw.out.trans (Aq.out.mono Aw.out.size)
        exact h1.trans ⟨rfl, rfl, rfl, by simp, fun i hi => by rw [World.putObj_heap_other (by have := AD.out; omega), World.putObj_heap_other (by have := AD.out; omega)]⟩
end
end Go.Proofs.YtmlhcncagdfjfaaGreat.De
