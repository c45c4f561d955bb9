import Derived.Test.YtmlhcncagdfjfaaGreatLnA
import Derived.Test.YtmlhcncagdfjfaaGreatDrM
set_option maxRecDepth 100000
set_option maxHeartbeats 25600000
namespace Go.Proofs.YtmlhcncagdfjfaaGreat.De
open Go.RowKit Fa Go.Shelf Rg
open Go.ChangeMaps (setBlock heap_setBlock_same heap_setBlock_other)
attribute [local go_sem] Oper.semAt_some
def oG (b7 mb q j k : Nat) (i : Nat) (v : Value) (_ : World) (_ _ : Nat) : Prop := match i with
 | 0 => v = .map (some mb)
 | 1 => v = .pointer (some ⟨b7, 1, none⟩)
 | 2 => v = .int .i64 (q : Int)
 | 3 => v = .pointer (some ⟨b7, 0, none⟩)
 | 4 => v = .int .i64 (j : Int)
 | 5 => v = pk q j
 | 6 => v = .int .i64 (k : Int)
 | _ => True
theorem bJ {b7 mb q j k : Nat} : ∀ i v W W' lo hi, oG b7 mb q j k i v W lo hi → hi ≤ W.heap.size → Below W.heap.size W W' → oG b7 mb q j k i v W' lo hi := fun _ _ _ _ _ _ h _ _ => h
def ss (mb : Nat) (V : Nat → Nat → Int) (c : Nat) (W0 : World) (_ : Nat → Value) (W : World) : Prop := Fr (fun g => g = mb) W0 W ∧ ∃ es clock, W.heap[mb]? = some (.map es clock) ∧ Mi V c es clock
theorem qS {w : World} {b clock : Nat} {es : Array MapEntry} {o : Obj} (hb : w.heap[b]? = some (.map es clock)) : Fr (fun g => g = b) w (setBlock w b o) := by
 refine ⟨rfl, rfl, rfl, by rw [dM]; exact Nat.le_refl _, fun i hi hz => heap_setBlock_other hb _ (fun e => hz e)⟩
section
variable {S : Nat → Prop} {N0 : Nat} {K : cG} {T : Th} {w : World} {l : List StM} {la : Option Addr} {lc : Nat}
theorem vf (hT : Wt T K.n) (hX : Xr S N0 K T w) (hl : Sts w.heap.size w l la) (hl0 : 0 < l.length) (hll : l.length ≤ 65536) (hls : ∀ s ∈ l, ∃ q j : Nat, s.lit = (q : Int) ∧ s.tag = (j : Int) ∧ q < K.n ∧ 1 ≤ j ∧ j ≤ 4) (hlc : ∀ s ∈ l, s.ch.length ≤ 1048576) :
    Calls Tryz.prog 57 #[ab K.q, .slice la l.length lc] w fun e w' => ∃ v, e = .returned v ∧ Gy 32 5 jj w.heap.size (je T l) v w' ∧ Below w.heap.size w w' := by
 have DX : Tryz.prog.follows .mixedOrders = true := by kernel_rfl
 have Ek := @run_makeMap Tryz.prog
 obtain ⟨iB, DA, Dx, DK, DU⟩ := info_parts kP
 obtain ⟨s, CA, CR⟩ := zH hl
 have Bk := hide CA
 have Bv := hide CR
 have HL := hide hl
 have HT := hide hT
 have HX := hide hX
 have Cf := hide hls
 have DC := hide hlc
 obtain ⟨m, hm⟩ : ∃ m, l.length = m := ⟨_, rfl⟩
 have HM := hide hm
 have DB := hT.n4
 rw [hm] at hl0 hll ⊢
 have Ec : ∀ W, (Instr.makeSlice 106 (.int .i64 (m : Int)) (.int .i64 (m : Int))).run Tryz.prog W = .ok (az W.heap.size m) (W.alloc (.cells (Array.replicate m (.bool false)) 4)) := fun W => aW (P := Tryz.prog) Tryz.underlying106 DA Dx DK rfl m (by rw [DU]; omega) (by unfold maxLen; omega) W
 clear hT hX hl hls CA CR hm hlc
 have hB : Below w.heap.size w (((w.alloc (.cells #[ab K.q] 81)).alloc (.map #[] 0)).alloc (.cells #[.map (some (w.heap.size + 1))] 148)) := ((ac w _).trans ((ac _ _).mono (by simp))).trans ((ac _ _).mono (by simp; omega))
 have h0 : Fx w.heap.size 81 [ab K.q] (((w.alloc (.cells #[ab K.q] 81)).alloc (.map #[] 0)).alloc (.cells #[.map (some (w.heap.size + 1))] 148)) := by
  have e1 : (w.alloc (.cells #[ab K.q] 81)).heap[w.heap.size]? = some (.cells #[ab K.q] 81 (0, 0)) := heap_alloc_new w _
  exact (Below.heap_alloc _ _ _ (by simp; omega)).trans ((Below.heap_alloc _ _ _ (by simp)).trans e1)
 have h1 : (((w.alloc (.cells #[ab K.q] 81)).alloc (.map #[] 0)).alloc (.cells #[.map (some (w.heap.size + 1))] 148)).heap[w.heap.size + 1]? = some (.map #[] 0) := by
  have e1 := World.alloc_heap_new (w.alloc (.cells #[ab K.q] 81)) (.map #[] 0)
  rw [World.size_alloc] at e1
  exact (Below.heap_alloc _ _ _ (by simp)).trans e1
 have h5 : Fx (w.heap.size + 1 + 1) 148 [.map (some (w.heap.size + 1))] (((w.alloc (.cells #[ab K.q] 81)).alloc (.map #[] 0)).alloc (.cells #[.map (some (w.heap.size + 1))] 148)) := by
  have e1 := heap_alloc_new ((w.alloc (.cells #[ab K.q] 81)).alloc (.map #[] 0)) (.cells #[.map (some (w.heap.size + 1))] 148)
  simpa [Fx] using e1
 have HB := hide hB
 have H0 := hide h0
 have Bw := hide h1
 have H5 := hide h5
 clear hB h0 h1 h5
 refine callsIn_wide.1 (callsIn_of_wp_marks (n := 3) Tryz.func57 rfl trivial (wpIn_wide.2 ?_))
 simp only [Tryz.ntmps57, List.size_toArray, List.length_cons, List.length_nil, Nat.reduceAdd, Nat.reduceSub, Array.replicate_succ, Array.replicate_zero, List.push_toArray, List.append_toArray, List.nil_append, List.cons_append]
 go_upto_region 2 with fail
 generalize (((w.alloc (.cells #[ab K.q] 81)).alloc (.map #[] 0)).alloc (.cells #[.map (some (w.heap.size + 1))] 148)) = w2 at *
 obtain ⟨b0, BC⟩ : ∃ b, w.heap.size = b := ⟨_, rfl⟩
 obtain ⟨mb, BA⟩ : ∃ b, w.heap.size + 1 = b := ⟨_, rfl⟩
 obtain ⟨b5, BP⟩ : ∃ b, w.heap.size + 1 + 1 = b := ⟨_, rfl⟩
 rw [BP] at H5 ⊢
 rw [BA] at H5 Bw ⊢
 have Bt := hide (And.intro BC (And.intro BA BP))
 clear BA BP
 rw [BC] at H0 ⊢
 clear BC
 have Bc := hide (lq w2 la m lc)
 go_wp2_with (go_at_call 96; refine Bc.out.mono ?_; rintro _ wB ⟨bb, rfl, AQ, AZ, Ba⟩; have BN := hide AQ; have AW := hide AZ; have CW := hide Ba; clear AQ AZ Ba Bc)
 have Aw : Hid (w.heap.size = b0 ∧ w.heap.size + 1 = mb ∧ w.heap.size + 1 + 1 = b5 ∧ b5 < w2.heap.size ∧ w2.heap.size ≤ bb ∧ bb < wB.heap.size) := hide ⟨Bt.out.1, Bt.out.2.1, Bt.out.2.2, H5.out.lt, CW.out, BN.out.lt⟩
 have Bs := hide (HB.out.trans (AW.out.mono HB.out.size))
 have BX := hide ((AW.out.block mb (aR Bw.out)).trans Bw.out)
 have H5B := hide (H5.out.keep (AW.out.block _ H5.out.lt))
 have H0B := hide (H0.out.keep (AW.out.block _ H0.out.lt))
 have BJ := hide (fun X : World => jU)
 clear HB AW H0 Bw H5 Bt CW BJ
 refine (wpIn_wide (n := 3)).1 ?_
 refine lR 6 7 (bb := bb) (len := m) (lc := lc) (la := la) (s := s) (p1 := 19) (p2 := 20) 3 (by omega) (by omega) rfl (enters_go Tryz.func133 (by kernel_rfl) (by kernel_rfl))
  (fun k W => k ≤ m ∧ ss mb (jK l k) (m - k) wB (fun _ => undef) W) ?hst ?hE ?hS ?h0 ?assign ?body ?done
 case hst =>
  rintro k W W' ⟨h1, h2, es, clock, h3, h4⟩ hb
  exact ⟨h1, te h2 hb, es, clock, (hb.block mb (aR BX.out)).trans h3, h4⟩
 case hE =>
  rintro k W ⟨h1, h2, -⟩
  have z := Aw.out
  refine ⟨(BN.out.keep (h2.block _ BN.out.lt (by omega))).get (i := 0) rfl, fun i hi => ?_⟩
  obtain ⟨g, o, e, hg, c0, c1, c2, c3, c4⟩ := Bv.out i (by rw [HM.out]; exact hi)
  have hk : W.heap[g]? = w.heap[g]? := (h2.block g (by omega) (by omega)).trans (Bs.out.block g hg)
  exact ⟨g, o, e, (World.cell?_of_block hk).trans c0, (World.cell?_of_block hk).trans c1, (World.cell?_of_block hk).trans c2, (World.cell?_of_block hk).trans c3, (World.cell?_of_block hk).trans c4⟩
 case hS => exact fun k W h => h.2.1.size
 case h0 => exact ⟨Nat.le_refl _, Fr.refl _ _, #[], 0, BX.out, by have e : jK l m = fun _ _ => 0 := (by rw [← HM.out]; exact yo); rw [e, Nat.sub_self]; exact yL⟩
 case assign =>
  intro l' k W K hK
  simp only [List.setIfInBounds_toArray, List.set_cons_succ, List.set_cons_zero] at hK ⊢
  gi_wp2
  exact hK
 case body =>
  intro l' k b7 W hI hk CH Dc
  obtain ⟨x, hx⟩ := am (l := l) (i := k) (by rw [HM.out]; exact hk)
  obtain ⟨q, j, hq, hj, Cl, AV, CQ⟩ := Cf.out x (List.mem_of_getElem? hx)
  obtain ⟨e1, e2, -, -, -, -⟩ := Bk.out k x hx
  have DR : s.q k = (q : Int) := e2.trans hq
  have Dt : s.t k = (j : Int) := e1.trans hj
  have DF : Hid (jK l k = mB (jK l (k + 1)) q j (k : Int)) := hide (uZ hx hq hj)
  obtain ⟨-, Am, es, clock, Ct, CM⟩ := hI
  have Bo := hide Am
  have Dg := hide CM
  have Cs := hide Ct
  have Cq := hide CH
  have CF := H5B.out.keep (Am.block _ H5B.out.lt (by have := Aw.out; omega))
  have H5W := hide CF
  have HK := hide (And.intro hk (And.intro Dc (And.intro Cl CQ)))
  clear hx hq hj e1 e2 Am CM Ct CH CF Cl AV CQ
  obtain ⟨V, hV⟩ : ∃ V, jK l k = V := ⟨_, rfl⟩
  obtain ⟨c, hc⟩ : ∃ c, m - k = c := ⟨_, rfl⟩
  have HV := hide hV
  have HC := hide hc
  clear hV hc
  have HDr := hide ((Below.refl W.heap.size W).drew)
  obtain ⟨W0, CI⟩ : ∃ W0, W.drew = W0 := ⟨_, rfl⟩
  rw [CI] at HDr
  have Ap : Hid (gu [some 21, some 22, some 23, some 24, some 25, some 26, some 27, none] [(5, ab b5), (7, ab b7), (6, .int .i64 (k : Int))] = true) := hide rfl
  have BG : Hid (∀ X, Below W0.heap.size W0 X → X.cell? ⟨b7, 0, none⟩ = some (.int .i64 (j : Int)) ∧ X.cell? ⟨b7, 1, none⟩ = some (.int .i64 (q : Int)) ∧ X.cell? ⟨b5, 0, none⟩ = some (.map (some mb))) := hide fun X hX => by
   have hb := HDr.out.trans (hX.mono HDr.out.size)
   have h7 := Cq.out.keep (hb.block _ Cq.out.lt)
   exact ⟨by rw [← Dt]; exact h7.get (i := 0) rfl, by rw [← DR]; exact h7.get (i := 1) rfl, (H5W.out.keep (hb.block _ H5W.out.lt)).get (i := 0) rfl⟩
  have Dr : Hid (∀ X, Below W0.heap.size W0 X → ∃ An Ad, (Instr.mapUpdate 148 (.map (some mb)) (pk q j) (.int .i64 (k : Int))).run Tryz.prog X = .ok () (setBlock X mb (.map An Ad)) ∧ ss mb V c W0 (fun _ => undef) (setBlock X mb (.map An Ad))) := hide fun X hX => by
   have hb := HDr.out.trans (hX.mono HDr.out.size)
   have BV : X.heap[mb]? = some (.map es clock) := (hb.block _ (aR Cs.out)).trans Cs.out
   obtain ⟨An, Ad, hr, hM⟩ := za BV Dg.out (s := q) (q := j) (by have := HK.out; omega) (by have := HK.out; omega) (by omega) (k : Int)
   refine ⟨An, Ad, hr, (Fr.of_below hX).trans (qS BV), An, Ad, heap_setBlock_same BV _, ?_⟩
   rw [← HV.out, DF.out, ← HC.out, show m - k = m - (k + 1) + 1 by omega]
   exact hM
  have BJ : Hid (∀ X, Calls Tryz.prog 42 #[.int .i64 (q : Int), .int .i64 (j : Int)] X fun e w' => e = .returned (.agg #[.int .i64 (q : Int), .int .i64 (j : Int)]) ∧ Below X.heap.size X w') := hide fun X => jU _ _ X
  have DD : Hid (∀ args w', (callFunc 42 args).run Tryz.prog w' = .ok (.enter 42 args) w') := hide (enters_go Tryz.func42 (by kernel_rfl) (by kernel_rfl))
  simp only [Nat.reduceSub]
  refine wpIn_block ?_
  refine nP (Jl 7 [some 21, some 22, some 23, some 24, some 25, some 26, some 27, none] [(5, ab b5), (7, ab b7), (6, .int .i64 (k : Int))] (oG b7 mb q j k) (ss mb V c W0) W0) ?hq (by kernel_rfl) (by kernel_rfl) (by kernel_rfl) ?_ (cj ⟨?_, ?_, ?_, ?_, ?_, ?_, ?_, ?_, trivial⟩) ?_
  case hq => rintro ⟨a, w, h⟩; exact h
  · refine ⟨fun _ => ?_, fun e => by cases e⟩
    show Jg _ _ _ W0 _ _ W.drew
    rw [CI]
    exact Jg.start.2 fun p hp => by simp at hp; rcases hp with rfl | rfl | rfl <;> rfl
  · intro ρ X L hc hf hL hd Ab Ac
    have Aa : L 7 = false := ak (by kernel_rfl) Ab (k := 0) (by simp) hL
    have hJ := Ac.1 Aa
    obtain ⟨c0, c1, c5⟩ := BG.out X hJ.low
    have k5 : ρ (.tmp 5) = ab b5 := hJ.base (5, ab b5) (by simp)
    refine aa (v := .map (some mb)) (w' := X) ?_ ⟨fun _ => hJ.put Ap.out bJ (i := 0) (d := 21) rfl (Below.refl _ _) (rfl), fun e => by rw [al (by decide), Aa] at e; cases e⟩
    clear hd Ab hJ Ac hL Aa
    go_simp
  · intro ρ X L hc hf hL hd Ab Ac
    have Aa : L 7 = false := ak (by kernel_rfl) Ab (k := 1) (by simp) hL
    have hJ := Ac.1 Aa
    have k7 : ρ (.tmp 7) = ab b7 := hJ.base (7, ab b7) (by simp)
    refine aa (v := .pointer (some ⟨b7, 1, none⟩)) (w' := X) ?_ ⟨fun _ => hJ.put Ap.out bJ (i := 1) (d := 22) rfl (Below.refl _ _) (rfl), fun e => by rw [al (by decide), Aa] at e; cases e⟩
    clear hd Ab hJ Ac hL Aa
    go_simp
  · intro ρ X L hc hf hL hd Ab Ac
    have Aa : L 7 = false := ak (by kernel_rfl) Ab (k := 2) (by simp) hL
    have hJ := Ac.1 Aa
    obtain ⟨c0, c1, c5⟩ := BG.out X hJ.low
    have Eo : ρ (.tmp 22) = .pointer (some ⟨b7, 1, none⟩) := by
     obtain ⟨_, _, _, e1⟩ := hJ.get (i := 1) (d := 22) rfl (hd ⟨1, .data⟩ (by simp) rfl)
     exact e1
    refine aa (v := .int .i64 (q : Int)) (w' := X) ?_ ⟨fun _ => hJ.put Ap.out bJ (i := 2) (d := 23) rfl (Below.refl _ _) (rfl), fun e => by rw [al (by decide), Aa] at e; cases e⟩
    clear hd Ab hJ Ac hL Aa
    go_simp
  · intro ρ X L hc hf hL hd Ab Ac
    have Aa : L 7 = false := ak (by kernel_rfl) Ab (k := 3) (by simp) hL
    have hJ := Ac.1 Aa
    have k7 : ρ (.tmp 7) = ab b7 := hJ.base (7, ab b7) (by simp)
    refine aa (v := .pointer (some ⟨b7, 0, none⟩)) (w' := X) ?_ ⟨fun _ => hJ.put Ap.out bJ (i := 3) (d := 24) rfl (Below.refl _ _) (rfl), fun e => by rw [al (by decide), Aa] at e; cases e⟩
    clear hd Ab hJ Ac hL Aa
    go_simp
  · intro ρ X L hc hf hL hd Ab Ac
    have Aa : L 7 = false := ak (by kernel_rfl) Ab (k := 4) (by simp) hL
    have hJ := Ac.1 Aa
    obtain ⟨c0, c1, c5⟩ := BG.out X hJ.low
    have Ef : ρ (.tmp 24) = .pointer (some ⟨b7, 0, none⟩) := by
     obtain ⟨_, _, _, e1⟩ := hJ.get (i := 3) (d := 24) rfl (hd ⟨3, .data⟩ (by simp) rfl)
     exact e1
    refine aa (v := .int .i64 (j : Int)) (w' := X) ?_ ⟨fun _ => hJ.put Ap.out bJ (i := 4) (d := 25) rfl (Below.refl _ _) (rfl), fun e => by rw [al (by decide), Aa] at e; cases e⟩
    clear hd Ab hJ Ac hL Aa
    go_simp
  · intro ρ X L hc hf hL hd Ab Ac
    have Aa : L 7 = false := ak (by kernel_rfl) Ab (k := 5) (by simp) hL
    have hJ := Ac.1 Aa
    have Ed : ρ (.tmp 23) = .int .i64 (q : Int) := by
     obtain ⟨_, _, _, e1⟩ := hJ.get (i := 2) (d := 23) rfl (hd ⟨2, .data⟩ (by simp) rfl)
     exact e1
    have Eg : ρ (.tmp 25) = .int .i64 (j : Int) := by
     obtain ⟨_, _, _, e1⟩ := hJ.get (i := 4) (d := 25) rfl (hd ⟨4, .data⟩ (by simp) rfl)
     exact e1
    have hC := BJ.out X
    have he := DD.out #[.int .i64 (q : Int), .int .i64 (j : Int)] X
    refine eo (f := 42) (args := #[.int .i64 (q : Int), .int .i64 (j : Int)]) (w' := X) ?_ hC ?_
    · clear hd Ab hJ Ac hL Aa hC
      go_simp
    · rintro _ Y ⟨rfl, hb⟩
      exact ⟨_, rfl, fun _ => hJ.put Ap.out bJ (i := 5) (d := 26) rfl hb (rfl), fun e => by rw [al (by decide), Aa] at e; cases e⟩
  · intro ρ X L hc hf hL hd Ab Ac
    have Aa : L 7 = false := ak (by kernel_rfl) Ab (k := 6) (by simp) hL
    have hJ := Ac.1 Aa
    have k6 : ρ (.tmp 6) = .int .i64 (k : Int) := hJ.base (6, .int .i64 (k : Int)) (by simp)
    refine aa (v := .int .i64 (k : Int)) (w' := X) ?_ ⟨fun _ => hJ.put Ap.out bJ (i := 6) (d := 27) rfl (Below.refl _ _) (rfl), fun e => by rw [al (by decide), Aa] at e; cases e⟩
    clear hd Ab hJ Ac hL Aa
    go_simp
  · intro ρ X L hc hf hL hd Ab Ac
    have hJ := Ac.1 hL
    have Ep : ρ (.tmp 21) = .map (some mb) := by
     obtain ⟨_, _, _, e1⟩ := hJ.get (i := 0) (d := 21) rfl (hd ⟨0, .data⟩ (by simp) rfl)
     exact e1
    have El : ρ (.tmp 26) = pk q j := by
     obtain ⟨_, _, _, e1⟩ := hJ.get (i := 5) (d := 26) rfl (hd ⟨5, .data⟩ (by simp) rfl)
     exact e1
    have Er : ρ (.tmp 27) = .int .i64 (k : Int) := by
     obtain ⟨_, _, _, e1⟩ := hJ.get (i := 6) (d := 27) rfl (hd ⟨6, .data⟩ (by simp) rfl)
     exact e1
    obtain ⟨An, Ad, DY, hF⟩ := Dr.out X hJ.low
    have BF : Hid (ss mb V c W0 (fK (fun s => ρ (.tmp s)) none undef) (setBlock X mb (.map An Ad))) := hide hF
    refine bY (w' := setBlock X mb (.map An Ad)) ?_ ⟨fun e => (by rw [aK] at e; cases e), fun _ => BF.out⟩
    clear hd Ab hJ Ac hL BF hF
    go_simp
  · rintro ⟨Em, df⟩ w' Ee Eh ⟨L, hL, hJ⟩ Bd
    obtain ⟨hf, An, Ad, Dk, DM⟩ := hJ.2 (hL 7 (by decide))
    have BM : Fr (fun g => g = mb) W w' := (Fr.of_below HDr.out).trans hf
    refine ⟨⟨BM.size, fun i o hi h1 h2 => (BM.block i (aR h1) (by have := Aw.out; omega)).trans h1⟩, by have := HK.out; omega, Bo.out.trans BM, An, Ad, Dk, ?_⟩
    rw [HV.out, HC.out]
    exact DM
 case done =>
  intro D wC hD hI Av
  obtain ⟨-, AT, es, clock, Cr, CO⟩ := hI
  have Cv := hide AT
  have BW := hide Cr
  have Cu := hide CO
  have Bl := hide Av
  have Cn := hide hD
  have Aj : Hid (Below w.heap.size w wC) := hide (Bs.out.trans (AT.below fun k hk => ⟨by have := Bs.out.size; omega, fun e => by have := Aw.out; omega⟩))
  have Bz := hide (H5B.out.keep (AT.block _ H5B.out.lt (by have := Aw.out; omega)))
  have BO := hide (H0B.out.keep (AT.block _ H0B.out.lt (by have := Aw.out; omega)))
  have Dw := hide (HX.out.go Aj.out)
  clear AT Cr CO Av hD Bs BX H5B H0B
  have CG : Below wC.heap.size wC ((wC.alloc (.cells (Array.replicate m (.bool false)) 4)).alloc (.cells #[az wC.heap.size m] 106)) := (ac wC _).trans ((ac _ _).mono (by simp))
  have CJ : Fx wC.heap.size 4 (jb m fun _ => false) ((wC.alloc (.cells (Array.replicate m (.bool false)) 4)).alloc (.cells #[az wC.heap.size m] 106)) := by
   have e1 : Fx wC.heap.size 4 (jb m fun _ => false) (wC.alloc (.cells (Array.replicate m (.bool false)) 4)) := by unfold Fx jb; rw [heap_alloc_new]; simp [List.map_const']
   exact e1.keep ((ac _ _).block _ e1.lt)
  have CT : Fx (wC.heap.size + 1) 106 [az wC.heap.size m] ((wC.alloc (.cells (Array.replicate m (.bool false)) 4)).alloc (.cells #[az wC.heap.size m] 106)) := by
   have e1 := heap_alloc_new (wC.alloc (.cells (Array.replicate m (.bool false)) 4)) (.cells #[az wC.heap.size m] 106)
   simpa [Fx] using e1
  have Ak := hide CG
  have AX := hide CJ
  have AH := hide CT
  clear CG CJ CT
  go_upto_region 7 with fail
  generalize ((wC.alloc (.cells (Array.replicate m (.bool false)) 4)).alloc (.cells #[az wC.heap.size m] 106)) = w4 at *
  obtain ⟨wm, Cc⟩ : ∃ b, wC.heap.size = b := ⟨_, rfl⟩
  obtain ⟨b8, BK⟩ : ∃ b, wC.heap.size + 1 = b := ⟨_, rfl⟩
  rw [BK] at AH ⊢
  rw [Cc] at AX AH ⊢
  have BB := hide (And.intro Cc BK)
  clear BK Cc
  have Cz := ac w4 (.cells #[.func (.func 97) #[] #[ab b8, ab b5]] 87)
  have CV : Fx w4.heap.size 87 [.func (.func 97) #[] #[ab b8, ab b5]] (w4.alloc (.cells #[.func (.func 97) #[] #[ab b8, ab b5]] 87)) := heap_alloc_new w4 _
  have As := hide Cz
  have AE := hide CV
  clear Cz CV
  go_upto_region 8 with fail
  generalize w4.alloc (.cells #[.func (.func 97) #[] #[ab b8, ab b5]] 87) = w5 at *
  obtain ⟨b9, BY⟩ : ∃ b, w4.heap.size = b := ⟨_, rfl⟩
  have CK := hide BY
  rw [BY] at AE ⊢
  clear BY
  have AK : Hid (Below wC.heap.size wC w5) := hide (Ak.out.trans (As.out.mono Ak.out.size))
  have Ae : Hid (b9 < w5.heap.size ∧ b8 < w4.heap.size ∧ wm < w4.heap.size ∧ b9 = w4.heap.size ∧ wm = wC.heap.size ∧ b8 = wC.heap.size + 1) := hide ⟨AE.out.lt, AH.out.lt, AX.out.lt, CK.out.symm, BB.out.1.symm, BB.out.2.symm⟩
  obtain ⟨n1, CE⟩ : ∃ n1, m = n1 + 1 := ⟨m - 1, by omega⟩
  have Ca : n1 < m := by omega
  have e1 : IntKind.i64.wrap ((m : Int) - 1) = (n1 : Int) := by rw [IntKind.wrap_i64]; omega
  have DP := hide CE
  obtain ⟨x1, AM⟩ := am (l := l) (i := n1) (by rw [HM.out]; exact Ca)
  obtain ⟨q1, j1, BT, AV, BQ, Cb, Ci⟩ := Cf.out x1 (List.mem_of_getElem? AM)
  obtain ⟨z1, z2, -, -, -, -⟩ := Bk.out n1 x1 AM
  have Di := hide AM
  have AL : Hid (s.q n1 = (q1 : Int) ∧ s.t n1 = (j1 : Int) ∧ x1.lit = (q1 : Int) ∧ x1.tag = (j1 : Int) ∧ q1 < K.n ∧ 1 ≤ j1 ∧ j1 ≤ 4) := hide ⟨z2.trans BT, z1.trans AV, BT, AV, BQ, Cb, Ci⟩
  clear CE AM BT AV BQ Cb Ci z1 z2
  obtain ⟨g1, o1, rfl, DL, c0, c1, c2, c3, c4⟩ := Bv.out n1 (by rw [HM.out]; exact Ca)
  have AI : w5.heap[g1]? = w.heap[g1]? := (AK.out.block g1 (by have := Aj.out.size; omega)).trans (Aj.out.block g1 DL)
  have d0 := (World.cell?_of_block (a := ⟨g1, o1 + n1 * 5, none⟩) AI).trans c0
  have d1 := (World.cell?_of_block (a := ⟨g1, o1 + n1 * 5 + 1, none⟩) AI).trans c1
  have d2 := (World.cell?_of_block (a := ⟨g1, o1 + n1 * 5 + 2, none⟩) AI).trans c2
  have d3 := (World.cell?_of_block (a := ⟨g1, o1 + n1 * 5 + 3, none⟩) AI).trans c3
  have d4 := (World.cell?_of_block (a := ⟨g1, o1 + n1 * 5 + 4, none⟩) AI).trans c4
  clear AI c0 c1 c2 c3 c4
  have BS : Fx w5.heap.size 32 (s.l n1) (w5.alloc (.cells (s.l n1).toArray 32)) := heap_alloc_new w5 _
  have AP := hide BS
  have Dj := hide (AK.out.trans ((ac w5 (.cells (s.l n1).toArray 32)).mono AK.out.size))
  clear BS
  go_upto_region 9 with fail
  change Code.wp _ _ _ _ (w5.alloc (.cells (s.l n1).toArray 32))
  clear d0 d1 d2 d3 d4
  have Ao := hide (ac w5 (.cells (s.l n1).toArray 32))
  generalize w5.alloc (.cells (s.l n1).toArray 32) = w6 at *
  obtain ⟨CL, Be⟩ : ∃ b, w5.heap.size = b := ⟨_, rfl⟩
  have Db := hide Be
  rw [Be] at AP ⊢
  clear Be
  have Cg : Hid (LI b5 b8 wm mb l m (fun _ => false) w6) := hide (by
   have h1 := As.out.trans (Ao.out.mono As.out.size)
   have h2 := Ak.out.trans (h1.mono Ak.out.size)
   exact ⟨AX.out.keep (h1.block _ AX.out.lt), AH.out.keep (h1.block _ AH.out.lt), Bz.out.keep (h2.block _ Bz.out.lt), es, clock, _, (h2.block _ (aR BW.out)).trans BW.out, Cu.out⟩)
  have WN := hide (fun W0 : Nat → Bool => vr (n := K.n) (b5 := b5) (b8 := b8) (wm := wm) (mb := mb) (m := m) (l := l) (W0 := W0) DB (by omega) HM.out (by omega))
  have CC : Hid (Calls Tryz.prog 97 #[.int .i64 (q1 : Int), .int .i64 (j1 : Int), ab b8, ab b5] w6 fun e w' => e = .returned (.tuple #[]) ∧ ∃ Z2, Pz (wy b5 b8 wm mb l m fun _ => false) (fun k => k = wm) w6 Z2 [((q1 : Int), (j1 : Int))] w') := hide (by
   obtain ⟨k, Ea, e, -, hc⟩ := (WN.out fun _ => false).call
   cases e
   exact hc (fun k => k = wm) [] w6 _ _ ⟨rfl, Cg.out⟩ ⟨by omega, by have := AL.out; omega, by have := AL.out; unfold ar; omega⟩)
  have f0 : w6.cell? ⟨CL, 0, none⟩ = some (.int .i64 (j1 : Int)) := by rw [← AL.out.2.1]; exact AP.out.get (i := 0) rfl
  have f1 : w6.cell? ⟨CL, 1, none⟩ = some (.int .i64 (q1 : Int)) := by rw [← AL.out.1]; exact AP.out.get (i := 1) rfl
  have f9 := (AE.out.keep (Ao.out.block _ AE.out.lt)).get (i := 0) rfl
  go_upto_region 9 with fail
  go_wp2_with fail
  refine CC.out.mono ?_
  rintro _ w7 ⟨rfl, Z7, Cp⟩
  have AD := hide Cp
  clear Cp CC f0 f1 f9 AP
  obtain ⟨W1, By⟩ : ∃ W1, eQ l (fun _ => false) [((q1 : Int), (j1 : Int))] = W1 := ⟨_, rfl⟩
  have Do := hide By
  have Cd : Hid (LI b5 b8 wm mb l m W1 w7) := hide (by rw [← By]; exact AD.out.inv.2)
  clear By
  have Bc := hide (lq w7 (some ⟨g1, o1, none⟩) m lc)
  go_wp2_with (go_at_call 96; refine Bc.out.mono ?_; rintro _ wD ⟨b2, rfl, AQ, AZ, Ba⟩; have Bu := hide AQ; have At := hide AZ; have BH := hide Ba; clear AQ AZ Ba Bc)
  have Ce : Hid (∀ g, g < wC.heap.size → wD.heap[g]? = wC.heap[g]?) := hide fun g hg => by
   have z := Ae.out
   have s4 := Ak.out.size
   have s5 := As.out.size
   have s6 := Ao.out.size
   have s7 := AD.out.fr.size
   rw [At.out.block g (by omega), AD.out.fr.block g (by omega) (by omega), Ao.out.block g (by omega), AK.out.block g hg]
  have AF : Hid (wC.heap.size ≤ w4.heap.size ∧ w4.heap.size ≤ w5.heap.size ∧ w5.heap.size ≤ w6.heap.size ∧ w6.heap.size ≤ w7.heap.size ∧ w7.heap.size ≤ wD.heap.size ∧ w7.heap.size ≤ b2 ∧ b2 < wD.heap.size) := hide ⟨Ak.out.size, As.out.size, Ao.out.size, AD.out.fr.size, At.out.size, BH.out, Bu.out.lt⟩
  have AC : Hid (Below w.heap.size w wD) := hide (by
   have h1 := Aj.out.trans (AK.out.mono Aj.out.size)
   have h2 := h1.trans (Ao.out.mono h1.size)
   have h3 := h2.trans (show Below w.heap.size w6 w7 from AD.out.fr.below fun k hk => ⟨by have := h2.size; omega, fun e => by have := Ae.out; have := Aj.out.size; omega⟩)
   exact h3.trans (At.out.mono h3.size))
  have Bg := hide (Cd.out.go At.out)
  have H9D : Hid (Fx b9 87 [.func (.func 97) #[] #[ab b8, ab b5]] wD) := hide (((AE.out.keep (Ao.out.block _ AE.out.lt)).keep (AD.out.fr.block _ (by have := Ae.out; have := AF.out; omega) (by have := Ae.out; omega))).keep (At.out.block _ (by have := Ae.out; have := AF.out; omega)))
  have H0D := hide (BO.out.keep (Ce.out _ BO.out.lt))
  have Ch := hide ((Ce.out _ (aR Bl.out)).trans Bl.out)
  have Bh : Hid (D < wC.heap.size) := hide (aR Bl.out)
  clear Ak As Ao AX AH AE Cg AD At BH Cd AK Dj BO Bz BW Cu Bl Dw BB CK Db
  refine (wpIn_wide (n := 3)).1 ?_
  refine lR 11 12 (bb := b2) (len := m) (lc := lc) (la := some ⟨g1, o1, none⟩) (s := s) (p1 := 46) (p2 := 47) 3 (by omega) (by omega) rfl (enters_go Tryz.func133 (by kernel_rfl) (by kernel_rfl))
   (fun k W => k ≤ m ∧ Fr (fun g => g = wm) wD W ∧ ∃ Wk, eS T l m W1 = eS T l k Wk ∧ LI b5 b8 wm mb l m Wk W) ?hst ?hE ?hS ?h0 ?assign ?body ?done
  case hst =>
   rintro k W W' ⟨h1, h2, Wk, h3, h4⟩ hb
   exact ⟨h1, te h2 hb, Wk, h3, h4.keep fun g hg => hb.block g (by
    have := Bg.out.lt
    rcases hg with rfl | rfl | rfl | rfl <;> omega)⟩
  case hE =>
   rintro k W ⟨h1, h2, -⟩
   have z := Ae.out
   have z2 := AF.out
   refine ⟨(Bu.out.keep (h2.block _ Bu.out.lt (by omega))).get (i := 0) rfl, fun i hi => ?_⟩
   obtain ⟨g, o, e, hg, c0, c1, c2, c3, c4⟩ := Bv.out i (by rw [HM.out]; exact hi)
   have hk : W.heap[g]? = w.heap[g]? := (h2.block g (by have := AC.out.size; omega) (by have := Aj.out.size; omega)).trans (AC.out.block g hg)
   exact ⟨g, o, e, (World.cell?_of_block hk).trans c0, (World.cell?_of_block hk).trans c1, (World.cell?_of_block hk).trans c2, (World.cell?_of_block hk).trans c3, (World.cell?_of_block hk).trans c4⟩
  case hS => exact fun k W h => h.2.1.size
  case h0 => exact ⟨Nat.le_refl _, Fr.refl _ _, W1, rfl, Bg.out⟩
  case assign =>
   intro l' k W K hK
   simp only [List.setIfInBounds_toArray, List.set_cons_succ, List.set_cons_zero] at hK ⊢
   gi_wp2
   exact hK
  case body =>
   intro l' k AY W hI hk Au DW
   obtain ⟨-, Am, Wk, BE, AN⟩ := hI
   obtain ⟨x, hx⟩ := am (l := l) (i := k) (by rw [HM.out]; exact hk)
   obtain ⟨e1, e2, e3, e4, e5, AB⟩ := Bk.out k x hx
   have CN : Below w.heap.size w W := AC.out.trans (Am.below fun i hi => ⟨by have := AC.out.size; omega, fun e => by have := Ae.out; have := Aj.out.size; omega⟩)
   have Bi : Hid (eS T l (k + 1) Wk = eS T l k (if Wk k then eQ l Wk (formM T x).2 else Wk)) := hide (by show eS T l k (if Wk k then (match l[k]? with | some s => eQ l Wk (formM T s).2 | none => Wk) else Wk) = _; rw [hx])
   have c8 := AN.b8.get (i := 0) rfl
   have cw := AN.wx.get (jL hk)
   have CY := hide AN
   have Bo := hide Am
   have Bq := hide BE
   have CP := hide hk
   simp only [Nat.reduceSub]
   cases hwk : Wk k with
   | false =>
    rw [hwk] at cw
    have HE : Hid (eS T l m W1 = eS T l k Wk) := hide (by rw [Bq.out, Bi.out, hwk]; rfl)
    clear hwk Bi Bq hx AB AN Am BE e1 e2 e3 e4 e5
    refine wpIn_block ?_
    gi_wp2
    exact ⟨⟨Nat.le_refl _, fun i o _ h1 _ => h1⟩, by have := CP.out; omega, Bo.out, Wk, HE.out, CY.out⟩
   | true =>
    rw [hwk] at cw
    have HE : Hid (eS T l m W1 = eS T l k (eQ l Wk (formM T x).2)) := hide (by rw [Bq.out, Bi.out, hwk]; rfl)
    obtain ⟨g3, o3, Dv, Dp, -, -, -, -, -, -, -, Ab, -, AS, Bb⟩ := HL.out k x hx
    have C := hide (lM (K := K) (T := T) (Inv := wy b5 b8 wm mb l m Wk) (Z := fun k => k = wm) (w := W) (l := []) (tag := x.tag) (lit := x.lit) (how := x.how) (rule := x.rule) (ch := x.ch) (ca := s.a k) (cc := s.c k) HT.out (HX.out.go CN) ⟨rfl, AN⟩ (fun i hi => ⟨fun hs => by have := HX.out.lt i hs; have := Ae.out; have := Aj.out.size; omega, by have := HX.out.n0; have := Ae.out; have := Aj.out.size; omega⟩) (WN.out Wk) AS Bb Ab (AB.keep fun g hg => CN.block g hg).chs (fun g o e hne => fun e2 => by
     obtain ⟨c0, Ds⟩ := am (l := x.ch) (i := 0) (by cases hz : x.ch with | nil => exact absurd hz hne | cons => simp)
     obtain ⟨g', o', e', hg', -, -⟩ := AB 0 c0 Ds
     rw [e] at e'
     cases e'
     have := Ae.out
     have := Aj.out.size
     omega))
    have t0 : W.cell? ⟨AY, 0, none⟩ = some (.int .i64 x.tag) := by rw [← e1]; exact Au.get (i := 0) rfl
    have t1 : W.cell? ⟨AY, 1, none⟩ = some (.int .i64 x.lit) := by rw [← e2]; exact Au.get (i := 1) rfl
    have t2 : W.cell? ⟨AY, 2, none⟩ = some (.int .i64 x.how) := by rw [← e3]; exact Au.get (i := 2) rfl
    have t3 : W.cell? ⟨AY, 3, none⟩ = some (.int .i64 x.rule) := by rw [← e4]; exact Au.get (i := 3) rfl
    have t4 : W.cell? ⟨AY, 4, none⟩ = some (.slice (s.a k) x.ch.length (s.c k)) := by rw [← e5]; exact Au.get (i := 4) rfl
    have f9 := (H9D.out.keep (Am.block _ H9D.out.lt (by have := Ae.out; omega))).get (i := 0) rfl
    have f0 := (H0D.out.keep (Am.block _ H0D.out.lt (by have := Aw.out; have := Ae.out; have := Cv.out.size; omega))).get (i := 0) rfl
    clear hwk Bi Bq hx AB AN Am BE e1 e2 e3 e4 e5 Ab AS Bb Au
    obtain ⟨fm, BL⟩ : ∃ z, formM T ⟨x.tag, x.lit, x.how, x.rule, x.ch⟩ = z := ⟨_, rfl⟩
    rw [BL] at C
    have Dm : Hid (eS T l m W1 = eS T l k (eQ l Wk fm.2)) := hide (by rw [← BL]; exact HE.out)
    obtain ⟨Ah, Ag, Ai, Af, AA⟩ := x
    simp only at C t0 t1 t2 t3 t4
    clear BL HE
    refine wpIn_block ?_
    gi_wp2_with (refine ⟨trivial, ?_⟩; gi_at_call 40; refine (CallsIn.inRound l' (callsIn_wide.2 C.out)).mono ?_; rintro _ w8 ⟨rfl, Z8, Cx⟩; have Bj := hide Cx; clear Cx C)
    exact ⟨⟨Bj.out.fr.size, fun i o hi h1 h2 => (Bj.out.fr.block i (aR h1) (by have := Ae.out; have := AF.out; omega)).trans h1⟩, by have := CP.out; omega, Bo.out.trans Bj.out.fr, _, Dm.out, Bj.out.inv.2⟩
  case done =>
   intro D2 wE DO hI Av
   obtain ⟨-, BI, Wf, CD, AG⟩ := hI
   have DT : Hid (je T l = ev Wf 0 l) := hide (by
    have AM := Di.out
    unfold je
    rw [HM.out, show m - 1 = n1 by have := DP.out; omega, AM]
    show ev (eS T l m (eQ l (fun _ => false) [(x1.lit, x1.tag)])) 0 l = _
    rw [AL.out.2.2.1, AL.out.2.2.2.1, Do.out, CD]
    rfl)
   have Ax : Hid (Below w.heap.size w wE) := hide (AC.out.trans (BI.below fun i hi => ⟨by have := AC.out.size; omega, fun e => by have := Ae.out; have := Aj.out.size; omega⟩))
   have DI : Hid (wE.heap[D]? = some (.deferred (some []))) := hide ((BI.block D (by have := AF.out; have := Bh.out; omega) (by have := Ae.out; have := Bh.out; omega)).trans Ch.out)
   have HD2E := hide Av
   have Az : Hid (D < D2 ∧ D2 < wE.heap.size ∧ w.heap.size ≤ D) := hide ⟨by have := Bh.out; have := AF.out; omega, aR Av, by have := Cn.out; have := Aw.out; omega⟩
   have BR := hide AG.wx
   have HB8E := hide AG.b8
   have Eb : Hid (wm < wE.heap.size ∧ b8 < wE.heap.size) := hide ⟨AG.wx.lt, AG.b8.lt⟩
   obtain ⟨iC, DG, Dn, Dq, Dh⟩ := info_parts qE
   obtain ⟨iS, DN, DE, Dy, DS⟩ := info_parts rJ
   clear BI CD AG Av DO AC Ce Bg H9D H0D Ch AF Cv Aj Bu Bh Cn Cf
   go_wp2_with fail
   go_loopw [13, 58] (fun u x wr => ∃ (k n : Nat) (tl : List StM) (ma : Option Addr) (mc : Nat), k ≤ m ∧ n ≤ k ∧ Hid (tl.length = n) ∧ x = .int .i64 k ∧ u = .slice ma n mc ∧ Hid (Gy 32 5 jj wE.heap.size tl (.slice ma n mc) wr) ∧ Hid (ev Wf 0 l = tl ++ ev Wf k (l.drop k)) ∧ Hid (Below wE.heap.size wE wr)) (fun _ x _ => m - (intOf x).toNat)
   case atStart => exact ⟨0, 0, [], none, 0, by omega, by omega, hide rfl, rfl, rfl, hide Gy.nil, hide (by rw [List.drop_zero]; rfl), hide (Below.refl _ _)⟩
   case round =>
    obtain ⟨k, n, tl, ma, mc, hk, Ei, Br, rfl, rfl, HG, AJ, Aq⟩ := hrel
    by_cases hlt : k < m
    · obtain ⟨x, hx⟩ := am (l := l) (i := k) (by rw [HM.out]; exact hlt)
      obtain ⟨e1, e2, e3, e4, e5, AB⟩ := Bk.out k x hx
      obtain ⟨g3, o3, Dv, Dp, -, -, -, -, -, -, -, Ab, -, AS, Bb⟩ := HL.out k x hx
      obtain ⟨g, o, Dl, hg, c0, c1, c2, c3, c4⟩ := Bv.out k (by rw [HM.out]; exact hlt)
      cases Dl
      have AO : wr.heap[g1]? = w.heap[g1]? := (Aq.out.block g1 (by have := Ax.out.size; omega)).trans (Ax.out.block g1 hg)
      have d0 := (World.cell?_of_block (a := ⟨g1, o1 + k * 5, none⟩) AO).trans c0
      have d1 := (World.cell?_of_block (a := ⟨g1, o1 + k * 5 + 1, none⟩) AO).trans c1
      have d2 := (World.cell?_of_block (a := ⟨g1, o1 + k * 5 + 2, none⟩) AO).trans c2
      have d3 := (World.cell?_of_block (a := ⟨g1, o1 + k * 5 + 3, none⟩) AO).trans c3
      have d4 := (World.cell?_of_block (a := ⟨g1, o1 + k * 5 + 4, none⟩) AO).trans c4
      rw [e1] at d0
      rw [e2] at d1
      rw [e3] at d2
      rw [e4] at d3
      rw [e5] at d4
      have Bm : Hid (ev Wf k (l.drop k) = if Wf k then x :: ev Wf (k + 1) (l.drop (k + 1)) else ev Wf (k + 1) (l.drop (k + 1))) := hide (by rw [aY hx]; rfl)
      have hA := ac wr (.cells #[.int .i64 x.tag, .int .i64 x.lit, .int .i64 x.how, .int .i64 x.rule, .slice (s.a k) x.ch.length (s.c k)] 32)
      have hQ : Fx wr.heap.size 32 [.int .i64 x.tag, .int .i64 x.lit, .int .i64 x.how, .int .i64 x.rule, .slice (s.a k) x.ch.length (s.c k)] (wr.alloc (.cells #[.int .i64 x.tag, .int .i64 x.lit, .int .i64 x.how, .int .i64 x.rule, .slice (s.a k) x.ch.length (s.c k)] 32)) := heap_alloc_new wr _
      have Bp : Hid (Src Tryz.prog 2 30 (.slice (s.a k) x.ch.length (s.c k)) x.ch.length (prs x.ch) (wr.alloc (.cells #[.int .i64 x.tag, .int .i64 x.lit, .int .i64 x.how, .int .i64 x.rule, .slice (s.a k) x.ch.length (s.c k)] 32))) := hide (zk ((AB.keep (w' := wr.alloc (.cells #[.int .i64 x.tag, .int .i64 x.lit, .int .i64 x.how, .int .i64 x.rule, .slice (s.a k) x.ch.length (s.c k)] 32)) fun g hg => (hA.block g (by have := Aq.out.size; have := Ax.out.size; omega)).trans ((Aq.out.block g (by have := Ax.out.size; omega)).trans (Ax.out.block g hg))).chs))
      have HA := hide hA
      have HQ := hide hQ
      have En := hide (And.intro AS Bb)
      have BD := DC.out x (List.mem_of_getElem? hx)
      clear AO c0 c1 c2 c3 c4 e1 e2 e3 e4 e5 AB hx hA hQ AS Bb
      obtain ⟨Ah, Ag, Ai, Af, AA⟩ := x
      simp only at d0 d1 d2 d3 d4 Bp HQ HA Ab BD
      have Ej : Hid (Exists fun z : StM => z = ⟨Ah, Ag, Ai, Af, AA⟩) := hide ⟨_, rfl⟩
      obtain ⟨cn, Cj⟩ : ∃ c, AA.length = c := ⟨_, rfl⟩
      have Co := hide Cj
      rw [Cj] at d4 Bp HQ HA Ab BD
      clear Cj
      go_upto_region 19 with fail
      clear d0 d1 d2 d3 d4
      generalize wr.alloc (.cells #[.int .i64 Ah, .int .i64 Ag, .int .i64 Ai, .int .i64 Af, .slice (s.a k) cn (s.c k)] 32) = w1 at *
      obtain ⟨Ar, Bf⟩ : ∃ b, wr.heap.size = b := ⟨_, rfl⟩
      have Df := hide Bf
      rw [Bf] at HQ ⊢
      clear Bf
      have AR := hide (Aq.out.trans (HA.out.mono Aq.out.size))
      have c8 := (HB8E.out.keep (AR.out.block _ HB8E.out.lt)).get (i := 0) rfl
      have cw := (BR.out.keep (AR.out.block _ BR.out.lt)).get (jL hlt)
      cases hwk : Wf k with
      | false =>
       rw [hwk] at cw
       have HE : Hid (ev Wf 0 l = tl ++ ev Wf (k + 1) (l.drop (k + 1))) := hide (by rw [AJ.out, Bm.out, hwk]; rfl)
       have Dz := hide (HG.out.keep ie (wd := w1) (fun g h1 h2 => HA.out.block g h2) HA.out.size)
       clear hwk Bm AJ HG
       go_wp2_with fail
       go_roundw
       case rel => exact ⟨k + 1, n, tl, ma, mc, by omega, by omega, Br, by go_num, rfl, Dz, HE, AR⟩
       case measure => simp [intOf]; omega
      | true =>
       rw [hwk] at cw
       have HE : Hid (ev Wf 0 l = (tl ++ [⟨Ah, Ag, Ai, Af, AA⟩]) ++ ev Wf (k + 1) (l.drop (k + 1))) := hide (by rw [AJ.out, Bm.out, hwk, List.append_assoc]; rfl)
       clear hwk Bm AJ
       have k4 := HQ.out.get (i := 4) rfl
       have Cy : Hid (w1.ownsRow w1.heap.size 100 2 (.slice none 0 0) 0 []) := hide ⟨rfl, .inl ⟨rfl, rfl⟩⟩
       go_upto_region 20 with fail
       go_upto_region 21 with (at_builtin; go_must (refine lK _ (Nat.le_refl _) (by rfl) _ _ 30 30 rfl 100 iC _ 2 16 Tryz.underlying30 DG Dn Dq Dh rfl (.slice none 0 0) 0 [] rfl Cy.out (.slice (s.a k) cn (s.c k)) cn (prs AA) rfl Bp.out (by unfold maxLen; omega) (by omega) ?_); intro v4 w4 Ay CS De; rw [Nat.zero_add, List.nil_append] at Ay; obtain ⟨a4, c4, rfl⟩ := ci Ay; have CU := hide Ay; have Ak : Hid (Below w1.heap.size w1 w4) := hide ((Fr.of_grown (Z := fun _ => False) CS (fun k e => by simp [Value.ownBlock] at e)).below fun k hk => ⟨hk, fun h => h⟩); have Bx := hide (HQ.out.keep (Ak.out.block _ HQ.out.lt)); have z4 := Bx.out.frz 4; have y4 := Bx.out.get (i := 4) rfl; clear Ay CS De)
       have AU : Hid (Fx Ar 32 [.int .i64 Ah, .int .i64 Ag, .int .i64 Ai, .int .i64 Af, .slice a4 cn c4] (w4.setCell ⟨Ar, 4, none⟩ (.slice a4 cn c4))) := hide (Bx.out.set 4 (.slice a4 cn c4))
       have DV := HQ.out.lt
       have BZ := hide (owns_keep (w' := w4.setCell ⟨Ar, 4, none⟩ (.slice a4 cn c4)) CU.out fun g hg => other_set (by have := (CU.out.lt g hg).1; omega))
       have s1 := HA.out.size
       have s4 := Ak.out.size
       have s5 := Aq.out.size
       have Es := Df.out
       have DZ : w4.heap.size ≤ (w4.setCell ⟨Ar, 4, none⟩ (.slice a4 cn c4)).heap.size := by simp
       have Cm : Hid (∀ g, wE.heap.size ≤ g → g < wr.heap.size → (w4.setCell ⟨Ar, 4, none⟩ (.slice a4 cn c4)).heap[g]? = wr.heap[g]?) := hide fun g h1 h2 => by
        rw [other_set (by omega), Ak.out.block g (by omega), HA.out.block g h2]
       have As : Hid (Below wE.heap.size wE (w4.setCell ⟨Ar, 4, none⟩ (.slice a4 cn c4))) := hide ((AR.out.trans (Ak.out.mono AR.out.size)).setCell (p := ⟨Ar, 4, none⟩) (by show wE.heap.size ≤ Ar; omega) _)
       clear k4 z4 y4 c8 cw Bx HQ Cy Bp
       generalize w4.setCell ⟨Ar, 4, none⟩ (.slice a4 cn c4) = w5 at *
       have f0 := AU.out.get (i := 0) rfl
       have f1 := AU.out.get (i := 1) rfl
       have f2 := AU.out.get (i := 2) rfl
       have f3 := AU.out.get (i := 3) rfl
       have f4 := AU.out.get (i := 4) rfl
       obtain ⟨Z, xs, Al, hz, Bd⟩ := HG.out
       rw [Br.out] at Al
       have Ck := hide Al
       have HZ := hide hz
       have Da := hide Bd
       have CZ := hide (owns_keep Al fun g hg => ((ac w5 (.cells #[.int .i64 Ah, .int .i64 Ag, .int .i64 Ai, .int .i64 Af, .slice a4 cn c4] 32)).block g (by have := (Al.lt g hg).2; omega)).trans (Cm.out g (Al.lt g hg).1 (Al.lt g hg).2))
       have Du : Hid (∀ g, Value.ownBlock (.slice ma n mc) = some g → wE.heap.size ≤ g) := hide fun g e => (Al.lt g e).1
       clear Al hz Bd HG
       go_wp2_with (at_builtin; go_must (refine bB _ rfl _ _ 27 rfl wE.heap.size 32 iS _ 5 56 Tryz.underlying27 DN DE Dy DS rfl (by decide) (.slice ma n mc) n xs rfl CZ.out ⟨w5.heap.size, 0, none⟩ 1 [.int .i64 Ah, .int .i64 Ag, .int .i64 Ai, .int .i64 Af, .slice a4 cn c4] rfl rfl (lA (cs := [.int .i64 Ah, .int .i64 Ag, .int .i64 Ai, .int .i64 Af, .slice a4 cn c4]) rfl) (by intro u hu; simp at hu; rcases hu with rfl | rfl | rfl | rfl | rfl <;> rfl) (by unfold maxLen; omega) (by omega) (by simp; omega) ?_); intro g4 BU w6 Bn Cw; have DH := hide Bn; have CB := hide Cw; clear Bn Cw)
       have DJ : Hid (Fr (fun k => wE.heap.size ≤ k) w5 w6) := hide (dx rfl (by rcases CB.out with h | ⟨h1, h2⟩; exact .inl h; exact .inr ⟨by simpa using h1, h2⟩) Du.out)
       have DQ : Hid (Gy 32 5 jj wE.heap.size (tl ++ [⟨Ah, Ag, Ai, Af, AA⟩]) (.slice (some ⟨g4, 0, none⟩) (n + 1) BU) w6) := hide (Gy.grow (Zn := fun g => Value.ownBlock (.slice a4 cn c4) = some g) ie Br.out Ck.out HZ.out Da.out Cm.out (by omega) (by omega) (fun g hg => ⟨by have := (BZ.out.lt g hg).1; omega, (BZ.out.lt g hg).2⟩) ⟨.slice a4 cn c4, rfl, rR (by rw [Co.out]; exact BZ.out) (fun g e => e) (by rw [Co.out]; exact Ab)⟩ rfl DH.out (by rcases CB.out with h | ⟨h1, h2⟩; exact .inl h; exact .inr ⟨by simpa using h1, h2⟩))
       have Ao : Hid (Below wE.heap.size wE w6) := hide (As.out.trans (DJ.out.below fun k hk => ⟨by have := As.out.size; omega, by omega⟩))
       go_roundw
       case rel => exact ⟨k + 1, n + 1, tl ++ [⟨Ah, Ag, Ai, Af, AA⟩], some ⟨g4, 0, none⟩, BU, by omega, by omega, hide (by rw [List.length_append, Br.out]; rfl), by go_num, rfl, DQ, HE, Ao⟩
       case measure => simp [intOf]; omega
    · have HE : Hid (je T l = tl) := hide (by rw [DT.out, AJ.out, List.drop_eq_nil_of_le (by rw [HM.out]; omega)]; unfold ev; rw [List.append_nil])
      have CX := hide ((Aq.out.block D (by have := Az.out; omega)).trans DI.out)
      have HD2E2 := hide ((Aq.out.block D2 (by have := Az.out; omega)).trans HD2E.out)
      clear AJ
      go_wp2_with fail
      refine ⟨by simp, .inl ⟨_, _, rfl, run_takeDeferred HD2E2.out, ?_⟩⟩
      have Dd : Hid ((wr.putObj D2 (.deferred none)).heap[D]? = some (.deferred (some []))) := hide ((World.putObj_heap_other (by have := Az.out; omega)).trans CX.out)
      refine ⟨by simp, .inl ⟨_, _, rfl, run_takeDeferred Dd.out, ?_⟩⟩
      refine ⟨.slice ma n mc, by simp [results, go_sem], .slice ma n mc, rfl, ?_, ?_⟩
      · rw [HE.out]
        have hk : ∀ g, wE.heap.size ≤ g → ((wr.putObj D2 (.deferred none)).putObj D (.deferred none)).heap[g]? = wr.heap[g]? := fun g hg => by
         rw [World.putObj_heap_other (by have := Az.out; omega), World.putObj_heap_other (by have := Az.out; omega)]
        exact (HG.out.keep ie (fun g h1 _ => hk g h1) (by simp)).down Ax.out.size
      · have h1 := Ax.out.trans (Aq.out.mono Ax.out.size)
        exact h1.trans ⟨rfl, rfl, rfl, by simp, fun i hi => by rw [World.putObj_heap_other (by have := Az.out; omega), World.putObj_heap_other (by have := Az.out; omega)]⟩
end
end Go.Proofs.YtmlhcncagdfjfaaGreat.De
