import Derived.Test.YtmlhcncagdfjfaaGreatLnA
import Derived.Test.YtmlhcncagdfjfaaGreatDrM
set_option maxRecDepth 100000
set_option maxHeartbeats 25600000
namespace Go.Proofs.YtmlhcncagdfjfaaGreat.De
open Go.RowKit Fa Go.Shelf Rg
open Go.ChangeMaps (setBlock heap_setBlock_same heap_setBlock_other)
attribute [local go_sem] Oper.semAt_some
def ph (b7 mb q j k : Nat) (i : Nat) (v : Value) (_ : World) (_ _ : Nat) : Prop := match i with
 | 0 => v = .map (some mb)
 | 1 => v = .pointer (some ⟨b7, 1, none⟩)
 | 2 => v = .int .i64 (q : Int)
 | 3 => v = .pointer (some ⟨b7, 0, none⟩)
 | 4 => v = .int .i64 (j : Int)
 | 5 => v = pk q j
 | 6 => v = .int .i64 (k : Int)
 | _ => True
theorem bD {b7 mb q j k : Nat} : ∀ i v W W' lo hi, ph b7 mb q j k i v W lo hi → hi ≤ W.heap.size → Below W.heap.size W W' → ph b7 mb q j k i v W' lo hi := fun _ _ _ _ _ _ h _ _ => h
def sZ (mb : Nat) (V : Nat → Nat → Int) (c : Nat) (W0 : World) (_ : Nat → Value) (W : World) : Prop := Fr (fun g => g = mb) W0 W ∧ ∃ es clock, W.heap[mb]? = some (.map es clock) ∧ Mi V c es clock
theorem rq {w : World} {b clock : Nat} {es : Array MapEntry} {o : Obj} (hb : w.heap[b]? = some (.map es clock)) : Fr (fun g => g = b) w (setBlock w b o) := by
 refine ⟨rfl, rfl, rfl, by rw [dx]; exact Nat.le_refl _, fun i hi hz => heap_setBlock_other hb _ (fun e => hz e)⟩
section
variable {S : Nat → Prop} {N0 : Nat} {K : cC} {T : Th} {w : World} {l : List StM} {la : Option Addr} {lc : Nat}
theorem wA (hT : Wt T K.n) (hX : Xr S N0 K T w) (hl : Sts w.heap.size w l la) (hl0 : 0 < l.length) (hll : l.length ≤ 65536) (hls : ∀ s ∈ l, ∃ q j : Nat, s.lit = (q : Int) ∧ s.tag = (j : Int) ∧ q < K.n ∧ 1 ≤ j ∧ j ≤ 4) (hlc : ∀ s ∈ l, s.ch.length ≤ 1048576) :
    Calls Tryz.prog 57 #[aa K.q, .slice la l.length lc] w fun e w' => ∃ v, e = .returned v ∧ Gy 32 5 iZ w.heap.size (jD T l) v w' ∧ Below w.heap.size w w' := by
 have DY : Tryz.prog.follows .mixedOrders = true := by kernel_rfl
 have Eh := @run_makeMap Tryz.prog
 obtain ⟨iB, DP, DK, Dn, DC⟩ := info_parts jA
 obtain ⟨s, CO, Cp⟩ := zM hl
 have Bq := hide CO
 have Bx := hide Cp
 have HL := hide hl
 have HT := hide hT
 have HX := hide hX
 have BV := hide hls
 have DS := hide hlc
 obtain ⟨m, hm⟩ : ∃ m, l.length = m := ⟨_, rfl⟩
 have HM := hide hm
 have DL := hT.n4
 rw [hm] at hl0 hll ⊢
 have Ec : ∀ W, (Instr.makeSlice 106 (.int .i64 (m : Int)) (.int .i64 (m : Int))).run Tryz.prog W = .ok (ay W.heap.size m) (W.alloc (.cells (Array.replicate m (.bool false)) 4)) := fun W => aH (P := Tryz.prog) Tryz.underlying106 DP DK Dn rfl m (by rw [DC]; omega) (by unfold maxLen; omega) W
 clear hT hX hl hls CO Cp hm hlc
 have hB : Below w.heap.size w (((w.alloc (.cells #[aa K.q] 81)).alloc (.map #[] 0)).alloc (.cells #[.map (some (w.heap.size + 1))] 148)) := ((ae w _).trans ((ae _ _).mono (by simp))).trans ((ae _ _).mono (by simp; omega))
 have h0 : Fx w.heap.size 81 [aa K.q] (((w.alloc (.cells #[aa K.q] 81)).alloc (.map #[] 0)).alloc (.cells #[.map (some (w.heap.size + 1))] 148)) := by
  have e1 : (w.alloc (.cells #[aa K.q] 81)).heap[w.heap.size]? = some (.cells #[aa K.q] 81 (0, 0)) := heap_alloc_new w _
  exact (Below.heap_alloc _ _ _ (by simp; omega)).trans ((Below.heap_alloc _ _ _ (by simp)).trans e1)
 have h1 : (((w.alloc (.cells #[aa K.q] 81)).alloc (.map #[] 0)).alloc (.cells #[.map (some (w.heap.size + 1))] 148)).heap[w.heap.size + 1]? = some (.map #[] 0) := by
  have e1 := World.alloc_heap_new (w.alloc (.cells #[aa K.q] 81)) (.map #[] 0)
  rw [World.size_alloc] at e1
  exact (Below.heap_alloc _ _ _ (by simp)).trans e1
 have h5 : Fx (w.heap.size + 1 + 1) 148 [.map (some (w.heap.size + 1))] (((w.alloc (.cells #[aa K.q] 81)).alloc (.map #[] 0)).alloc (.cells #[.map (some (w.heap.size + 1))] 148)) := by
  have e1 := heap_alloc_new ((w.alloc (.cells #[aa K.q] 81)).alloc (.map #[] 0)) (.cells #[.map (some (w.heap.size + 1))] 148)
  simpa [Fx] using e1
 have HB := hide hB
 have H0 := hide h0
 have Bn := hide h1
 have H5 := hide h5
 clear hB h0 h1 h5
 refine callsIn_wide.1 (callsIn_of_wp_marks (n := 3) Tryz.func57 rfl trivial (wpIn_wide.2 ?_))
 simp only [Tryz.ntmps57, List.size_toArray, List.length_cons, List.length_nil, Nat.reduceAdd, Nat.reduceSub, Array.replicate_succ, Array.replicate_zero, List.push_toArray, List.append_toArray, List.nil_append, List.cons_append]
 go_upto_region 2 with fail
 generalize (((w.alloc (.cells #[aa K.q] 81)).alloc (.map #[] 0)).alloc (.cells #[.map (some (w.heap.size + 1))] 148)) = w2 at *
 obtain ⟨b0, Cd⟩ : ∃ b, w.heap.size = b := ⟨_, rfl⟩
 obtain ⟨mb, BZ⟩ : ∃ b, w.heap.size + 1 = b := ⟨_, rfl⟩
 obtain ⟨b5, BT⟩ : ∃ b, w.heap.size + 1 + 1 = b := ⟨_, rfl⟩
 rw [BT] at H5 ⊢
 rw [BZ] at H5 Bn ⊢
 have Bp := hide (And.intro Cd (And.intro BZ BT))
 clear BZ BT
 rw [Cd] at H0 ⊢
 clear Cd
 have AS := hide (kN w2 la m lc)
 go_wp2_with (go_at_call 96; refine AS.out.mono ?_; rintro _ wB ⟨bb, rfl, AV, AT, Bb⟩; have BW := hide AV; have AQ := hide AT; have Cv := hide Bb; clear AV AT Bb AS)
 have Aw : Hid (w.heap.size = b0 ∧ w.heap.size + 1 = mb ∧ w.heap.size + 1 + 1 = b5 ∧ b5 < w2.heap.size ∧ w2.heap.size ≤ bb ∧ bb < wB.heap.size) := hide ⟨Bp.out.1, Bp.out.2.1, Bp.out.2.2, H5.out.lt, Cv.out, BW.out.lt⟩
 have Bm := hide (HB.out.trans (AQ.out.mono HB.out.size))
 have BC := hide ((AQ.out.block mb (aE Bn.out)).trans Bn.out)
 have H5B := hide (H5.out.keep (AQ.out.block _ H5.out.lt))
 have H0B := hide (H0.out.keep (AQ.out.block _ H0.out.lt))
 have BY := hide (fun X : World => kh)
 clear HB AQ H0 Bn H5 Bp Cv BY
 refine (wpIn_wide (n := 3)).1 ?_
 refine lQ 6 7 (bb := bb) (len := m) (lc := lc) (la := la) (s := s) (p1 := 19) (p2 := 20) 3 (by omega) (by omega) rfl (enters_go Tryz.func133 (by kernel_rfl) (by kernel_rfl))
  (fun k W => k ≤ m ∧ sZ mb (jx l k) (m - k) wB (fun _ => undef) W) ?hst ?hE ?hS ?h0 ?assign ?body ?done
 case hst =>
  rintro k W W' ⟨h1, h2, es, clock, h3, h4⟩ hb
  exact ⟨h1, tN h2 hb, es, clock, (hb.block mb (aE BC.out)).trans h3, h4⟩
 case hE =>
  rintro k W ⟨h1, h2, -⟩
  have z := Aw.out
  refine ⟨(BW.out.keep (h2.block _ BW.out.lt (by omega))).get (i := 0) rfl, fun i hi => ?_⟩
  obtain ⟨g, o, e, hg, c0, c1, c2, c3, c4⟩ := Bx.out i (by rw [HM.out]; exact hi)
  have hk : W.heap[g]? = w.heap[g]? := (h2.block g (by omega) (by omega)).trans (Bm.out.block g hg)
  exact ⟨g, o, e, (World.cell?_of_block hk).trans c0, (World.cell?_of_block hk).trans c1, (World.cell?_of_block hk).trans c2, (World.cell?_of_block hk).trans c3, (World.cell?_of_block hk).trans c4⟩
 case hS => exact fun k W h => h.2.1.size
 case h0 => exact ⟨Nat.le_refl _, Fr.refl _ _, #[], 0, BC.out, by have e : jx l m = fun _ _ => 0 := (by rw [← HM.out]; exact yf); rw [e, Nat.sub_self]; exact yQ⟩
 case assign =>
  intro l' k W K hK
  simp only [List.setIfInBounds_toArray, List.set_cons_succ, List.set_cons_zero] at hK ⊢
  gi_wp2
  exact hK
 case body =>
  intro l' k b7 W hI hk Cl De
  obtain ⟨x, hx⟩ := am (l := l) (i := k) (by rw [HM.out]; exact hk)
  obtain ⟨q, j, hq, hj, Ct, AX, Cs⟩ := BV.out x (List.mem_of_getElem? hx)
  obtain ⟨e1, e2, -, -, -, -⟩ := Bq.out k x hx
  have DA : s.q k = (q : Int) := e2.trans hq
  have Dv : s.t k = (j : Int) := e1.trans hj
  have Dk : Hid (jx l k = mM (jx l (k + 1)) q j (k : Int)) := hide (vt hx hq hj)
  obtain ⟨-, Ao, es, clock, CE, CT⟩ := hI
  have Bw := hide Ao
  have DI := hide CT
  have CG := hide CE
  have CI := hide Cl
  have CQ := H5B.out.keep (Ao.block _ H5B.out.lt (by have := Aw.out; omega))
  have H5W := hide CQ
  have HK := hide (And.intro hk (And.intro De (And.intro Ct Cs)))
  clear hx hq hj e1 e2 Ao CT CE Cl CQ Ct AX Cs
  obtain ⟨V, hV⟩ : ∃ V, jx l k = V := ⟨_, rfl⟩
  obtain ⟨c, hc⟩ : ∃ c, m - k = c := ⟨_, rfl⟩
  have HV := hide hV
  have HC := hide hc
  clear hV hc
  have HDr := hide ((Below.refl W.heap.size W).drew)
  obtain ⟨W0, CJ⟩ : ∃ W0, W.drew = W0 := ⟨_, rfl⟩
  rw [CJ] at HDr
  have Ap : Hid (fZ [some 21, some 22, some 23, some 24, some 25, some 26, some 27, none] [(5, aa b5), (7, aa b7), (6, .int .i64 (k : Int))] = true) := hide rfl
  have BX : Hid (∀ X, Below W0.heap.size W0 X → X.cell? ⟨b7, 0, none⟩ = some (.int .i64 (j : Int)) ∧ X.cell? ⟨b7, 1, none⟩ = some (.int .i64 (q : Int)) ∧ X.cell? ⟨b5, 0, none⟩ = some (.map (some mb))) := hide fun X hX => by
   have hb := HDr.out.trans (hX.mono HDr.out.size)
   have h7 := CI.out.keep (hb.block _ CI.out.lt)
   exact ⟨by rw [← Dv]; exact h7.get (i := 0) rfl, by rw [← DA]; exact h7.get (i := 1) rfl, (H5W.out.keep (hb.block _ H5W.out.lt)).get (i := 0) rfl⟩
  have Dq : Hid (∀ X, Below W0.heap.size W0 X → ∃ An Ad, (Instr.mapUpdate 148 (.map (some mb)) (pk q j) (.int .i64 (k : Int))).run Tryz.prog X = .ok () (setBlock X mb (.map An Ad)) ∧ sZ mb V c W0 (fun _ => undef) (setBlock X mb (.map An Ad))) := hide fun X hX => by
   have hb := HDr.out.trans (hX.mono HDr.out.size)
   have BR : X.heap[mb]? = some (.map es clock) := (hb.block _ (aE CG.out)).trans CG.out
   obtain ⟨An, Ad, hr, hM⟩ := yy BR DI.out (s := q) (q := j) (by have := HK.out; omega) (by have := HK.out; omega) (by omega) (k : Int)
   refine ⟨An, Ad, hr, (Fr.of_below hX).trans (rq BR), An, Ad, heap_setBlock_same BR _, ?_⟩
   rw [← HV.out, Dk.out, ← HC.out, show m - k = m - (k + 1) + 1 by omega]
   exact hM
  have BY : Hid (∀ X, Calls Tryz.prog 42 #[.int .i64 (q : Int), .int .i64 (j : Int)] X fun e w' => e = .returned (.agg #[.int .i64 (q : Int), .int .i64 (j : Int)]) ∧ Below X.heap.size X w') := hide fun X => kh _ _ X
  have DU : Hid (∀ args w', (callFunc 42 args).run Tryz.prog w' = .ok (.enter 42 args) w') := hide (enters_go Tryz.func42 (by kernel_rfl) (by kernel_rfl))
  simp only [Nat.reduceSub]
  refine wpIn_block ?_
  refine oI (Jl 7 [some 21, some 22, some 23, some 24, some 25, some 26, some 27, none] [(5, aa b5), (7, aa b7), (6, .int .i64 (k : Int))] (ph b7 mb q j k) (sZ mb V c W0) W0) ?hq (by kernel_rfl) (by kernel_rfl) (by kernel_rfl) ?_ (ci ⟨?_, ?_, ?_, ?_, ?_, ?_, ?_, ?_, trivial⟩) ?_
  case hq => rintro ⟨a, w, h⟩; exact h
  · refine ⟨fun _ => ?_, fun e => by cases e⟩
    show Jg _ _ _ W0 _ _ W.drew
    rw [CJ]
    exact Jg.start.2 fun p hp => by simp at hp; rcases hp with rfl | rfl | rfl <;> rfl
  · intro ρ X L hc hf hL hd Ab Ac
    have Aa : L 7 = false := ak (by kernel_rfl) Ab (k := 0) (by simp) hL
    have hJ := Ac.1 Aa
    obtain ⟨c0, c1, c5⟩ := BX.out X hJ.low
    have k5 : ρ (.tmp 5) = aa b5 := hJ.base (5, aa b5) (by simp)
    refine ac (v := .map (some mb)) (w' := X) ?_ ⟨fun _ => hJ.put Ap.out bD (i := 0) (d := 21) rfl (Below.refl _ _) (rfl), fun e => by rw [al (by decide), Aa] at e; cases e⟩
    clear hd Ab hJ Ac hL Aa
    go_simp
  · intro ρ X L hc hf hL hd Ab Ac
    have Aa : L 7 = false := ak (by kernel_rfl) Ab (k := 1) (by simp) hL
    have hJ := Ac.1 Aa
    have k7 : ρ (.tmp 7) = aa b7 := hJ.base (7, aa b7) (by simp)
    refine ac (v := .pointer (some ⟨b7, 1, none⟩)) (w' := X) ?_ ⟨fun _ => hJ.put Ap.out bD (i := 1) (d := 22) rfl (Below.refl _ _) (rfl), fun e => by rw [al (by decide), Aa] at e; cases e⟩
    clear hd Ab hJ Ac hL Aa
    go_simp
  · intro ρ X L hc hf hL hd Ab Ac
    have Aa : L 7 = false := ak (by kernel_rfl) Ab (k := 2) (by simp) hL
    have hJ := Ac.1 Aa
    obtain ⟨c0, c1, c5⟩ := BX.out X hJ.low
    have Er : ρ (.tmp 22) = .pointer (some ⟨b7, 1, none⟩) := by
     obtain ⟨_, _, _, e1⟩ := hJ.get (i := 1) (d := 22) rfl (hd ⟨1, .data⟩ (by simp) rfl)
     exact e1
    refine ac (v := .int .i64 (q : Int)) (w' := X) ?_ ⟨fun _ => hJ.put Ap.out bD (i := 2) (d := 23) rfl (Below.refl _ _) (rfl), fun e => by rw [al (by decide), Aa] at e; cases e⟩
    clear hd Ab hJ Ac hL Aa
    go_simp
  · intro ρ X L hc hf hL hd Ab Ac
    have Aa : L 7 = false := ak (by kernel_rfl) Ab (k := 3) (by simp) hL
    have hJ := Ac.1 Aa
    have k7 : ρ (.tmp 7) = aa b7 := hJ.base (7, aa b7) (by simp)
    refine ac (v := .pointer (some ⟨b7, 0, none⟩)) (w' := X) ?_ ⟨fun _ => hJ.put Ap.out bD (i := 3) (d := 24) rfl (Below.refl _ _) (rfl), fun e => by rw [al (by decide), Aa] at e; cases e⟩
    clear hd Ab hJ Ac hL Aa
    go_simp
  · intro ρ X L hc hf hL hd Ab Ac
    have Aa : L 7 = false := ak (by kernel_rfl) Ab (k := 4) (by simp) hL
    have hJ := Ac.1 Aa
    obtain ⟨c0, c1, c5⟩ := BX.out X hJ.low
    have Eo : ρ (.tmp 24) = .pointer (some ⟨b7, 0, none⟩) := by
     obtain ⟨_, _, _, e1⟩ := hJ.get (i := 3) (d := 24) rfl (hd ⟨3, .data⟩ (by simp) rfl)
     exact e1
    refine ac (v := .int .i64 (j : Int)) (w' := X) ?_ ⟨fun _ => hJ.put Ap.out bD (i := 4) (d := 25) rfl (Below.refl _ _) (rfl), fun e => by rw [al (by decide), Aa] at e; cases e⟩
    clear hd Ab hJ Ac hL Aa
    go_simp
  · intro ρ X L hc hf hL hd Ab Ac
    have Aa : L 7 = false := ak (by kernel_rfl) Ab (k := 5) (by simp) hL
    have hJ := Ac.1 Aa
    have Eg : ρ (.tmp 23) = .int .i64 (q : Int) := by
     obtain ⟨_, _, _, e1⟩ := hJ.get (i := 2) (d := 23) rfl (hd ⟨2, .data⟩ (by simp) rfl)
     exact e1
    have Em : ρ (.tmp 25) = .int .i64 (j : Int) := by
     obtain ⟨_, _, _, e1⟩ := hJ.get (i := 4) (d := 25) rfl (hd ⟨4, .data⟩ (by simp) rfl)
     exact e1
    have hC := BY.out X
    have he := DU.out #[.int .i64 (q : Int), .int .i64 (j : Int)] X
    refine dT (f := 42) (args := #[.int .i64 (q : Int), .int .i64 (j : Int)]) (w' := X) ?_ hC ?_
    · clear hd Ab hJ Ac hL Aa hC
      go_simp
    · rintro _ Y ⟨rfl, hb⟩
      exact ⟨_, rfl, fun _ => hJ.put Ap.out bD (i := 5) (d := 26) rfl hb (rfl), fun e => by rw [al (by decide), Aa] at e; cases e⟩
  · intro ρ X L hc hf hL hd Ab Ac
    have Aa : L 7 = false := ak (by kernel_rfl) Ab (k := 6) (by simp) hL
    have hJ := Ac.1 Aa
    have k6 : ρ (.tmp 6) = .int .i64 (k : Int) := hJ.base (6, .int .i64 (k : Int)) (by simp)
    refine ac (v := .int .i64 (k : Int)) (w' := X) ?_ ⟨fun _ => hJ.put Ap.out bD (i := 6) (d := 27) rfl (Below.refl _ _) (rfl), fun e => by rw [al (by decide), Aa] at e; cases e⟩
    clear hd Ab hJ Ac hL Aa
    go_simp
  · intro ρ X L hc hf hL hd Ab Ac
    have hJ := Ac.1 hL
    have Ej : ρ (.tmp 21) = .map (some mb) := by
     obtain ⟨_, _, _, e1⟩ := hJ.get (i := 0) (d := 21) rfl (hd ⟨0, .data⟩ (by simp) rfl)
     exact e1
    have Ed : ρ (.tmp 26) = pk q j := by
     obtain ⟨_, _, _, e1⟩ := hJ.get (i := 5) (d := 26) rfl (hd ⟨5, .data⟩ (by simp) rfl)
     exact e1
    have En : ρ (.tmp 27) = .int .i64 (k : Int) := by
     obtain ⟨_, _, _, e1⟩ := hJ.get (i := 6) (d := 27) rfl (hd ⟨6, .data⟩ (by simp) rfl)
     exact e1
    obtain ⟨An, Ad, DZ, hF⟩ := Dq.out X hJ.low
    have Cj : Hid (sZ mb V c W0 (fA (fun s => ρ (.tmp s)) none undef) (setBlock X mb (.map An Ad))) := hide hF
    refine bX (w' := setBlock X mb (.map An Ad)) ?_ ⟨fun e => (by rw [aG] at e; cases e), fun _ => Cj.out⟩
    clear hd Ab hJ Ac hL Cj hF
    go_simp
  · rintro ⟨Ee, df⟩ w' El Ep ⟨L, hL, hJ⟩ Be
    obtain ⟨hf, An, Ad, DQ, Dl⟩ := hJ.2 (hL 7 (by decide))
    have BO : Fr (fun g => g = mb) W w' := (Fr.of_below HDr.out).trans hf
    refine ⟨⟨BO.size, fun i o hi h1 h2 => (BO.block i (aE h1) (by have := Aw.out; omega)).trans h1⟩, by have := HK.out; omega, Bw.out.trans BO, An, Ad, DQ, ?_⟩
    rw [HV.out, HC.out]
    exact Dl
 case done =>
  intro D wC hD hI At
  obtain ⟨-, AY, es, clock, CM, CB⟩ := hI
  have CN := hide AY
  have BA := hide CM
  have Cx := hide CB
  have Bi := hide At
  have CS := hide hD
  have Aj : Hid (Below w.heap.size w wC) := hide (Bm.out.trans (AY.below fun k hk => ⟨by have := Bm.out.size; omega, fun e => by have := Aw.out; omega⟩))
  have Cc := hide (H5B.out.keep (AY.block _ H5B.out.lt (by have := Aw.out; omega)))
  have BP := hide (H0B.out.keep (AY.block _ H0B.out.lt (by have := Aw.out; omega)))
  have Du := hide (HX.out.go Aj.out)
  clear AY CM CB At hD Bm BC H5B H0B
  have CD : Below wC.heap.size wC ((wC.alloc (.cells (Array.replicate m (.bool false)) 4)).alloc (.cells #[ay wC.heap.size m] 106)) := (ae wC _).trans ((ae _ _).mono (by simp))
  have CV : Fx wC.heap.size 4 (ir m fun _ => false) ((wC.alloc (.cells (Array.replicate m (.bool false)) 4)).alloc (.cells #[ay wC.heap.size m] 106)) := by
   have e1 : Fx wC.heap.size 4 (ir m fun _ => false) (wC.alloc (.cells (Array.replicate m (.bool false)) 4)) := by unfold Fx ir; rw [heap_alloc_new]; simp [List.map_const']
   exact e1.keep ((ae _ _).block _ e1.lt)
  have CR : Fx (wC.heap.size + 1) 106 [ay wC.heap.size m] ((wC.alloc (.cells (Array.replicate m (.bool false)) 4)).alloc (.cells #[ay wC.heap.size m] 106)) := by
   have e1 := heap_alloc_new (wC.alloc (.cells (Array.replicate m (.bool false)) 4)) (.cells #[ay wC.heap.size m] 106)
   simpa [Fx] using e1
  have Ak := hide CD
  have AU := hide CV
  have AN := hide CR
  clear CD CV CR
  go_upto_region 7 with fail
  generalize ((wC.alloc (.cells (Array.replicate m (.bool false)) 4)).alloc (.cells #[ay wC.heap.size m] 106)) = w4 at *
  obtain ⟨wm, BB⟩ : ∃ b, wC.heap.size = b := ⟨_, rfl⟩
  obtain ⟨b8, BH⟩ : ∃ b, wC.heap.size + 1 = b := ⟨_, rfl⟩
  rw [BH] at AN ⊢
  rw [BB] at AU AN ⊢
  have BI := hide (And.intro BB BH)
  clear BH BB
  have Cq := ae w4 (.cells #[.func (.func 97) #[] #[aa b8, aa b5]] 87)
  have CC : Fx w4.heap.size 87 [.func (.func 97) #[] #[aa b8, aa b5]] (w4.alloc (.cells #[.func (.func 97) #[] #[aa b8, aa b5]] 87)) := heap_alloc_new w4 _
  have Ar := hide Cq
  have AD := hide CC
  clear Cq CC
  go_upto_region 8 with fail
  generalize w4.alloc (.cells #[.func (.func 97) #[] #[aa b8, aa b5]] 87) = w5 at *
  obtain ⟨b9, Ca⟩ : ∃ b, w4.heap.size = b := ⟨_, rfl⟩
  have CF := hide Ca
  rw [Ca] at AD ⊢
  clear Ca
  have AK : Hid (Below wC.heap.size wC w5) := hide (Ak.out.trans (Ar.out.mono Ak.out.size))
  have Ae : Hid (b9 < w5.heap.size ∧ b8 < w4.heap.size ∧ wm < w4.heap.size ∧ b9 = w4.heap.size ∧ wm = wC.heap.size ∧ b8 = wC.heap.size + 1) := hide ⟨AD.out.lt, AN.out.lt, AU.out.lt, CF.out.symm, BI.out.1.symm, BI.out.2.symm⟩
  obtain ⟨n1, Co⟩ : ∃ n1, m = n1 + 1 := ⟨m - 1, by omega⟩
  have BD : n1 < m := by omega
  have e1 : IntKind.i64.wrap ((m : Int) - 1) = (n1 : Int) := by rw [IntKind.wrap_i64]; omega
  have Dx := hide Co
  obtain ⟨x1, AM⟩ := am (l := l) (i := n1) (by rw [HM.out]; exact BD)
  obtain ⟨q1, j1, Cg, AX, BK, Ce, Cb⟩ := BV.out x1 (List.mem_of_getElem? AM)
  obtain ⟨z1, z2, -, -, -, -⟩ := Bq.out n1 x1 AM
  have DT := hide AM
  have AO : Hid (s.q n1 = (q1 : Int) ∧ s.t n1 = (j1 : Int) ∧ x1.lit = (q1 : Int) ∧ x1.tag = (j1 : Int) ∧ q1 < K.n ∧ 1 ≤ j1 ∧ j1 ≤ 4) := hide ⟨z2.trans Cg, z1.trans AX, Cg, AX, BK, Ce, Cb⟩
  clear Co AM Cg AX BK Ce Cb z1 z2
  obtain ⟨g1, o1, rfl, Ds, c0, c1, c2, c3, c4⟩ := Bx.out n1 (by rw [HM.out]; exact BD)
  have AL : w5.heap[g1]? = w.heap[g1]? := (AK.out.block g1 (by have := Aj.out.size; omega)).trans (Aj.out.block g1 Ds)
  have d0 := (World.cell?_of_block (a := ⟨g1, o1 + n1 * 5, none⟩) AL).trans c0
  have d1 := (World.cell?_of_block (a := ⟨g1, o1 + n1 * 5 + 1, none⟩) AL).trans c1
  have d2 := (World.cell?_of_block (a := ⟨g1, o1 + n1 * 5 + 2, none⟩) AL).trans c2
  have d3 := (World.cell?_of_block (a := ⟨g1, o1 + n1 * 5 + 3, none⟩) AL).trans c3
  have d4 := (World.cell?_of_block (a := ⟨g1, o1 + n1 * 5 + 4, none⟩) AL).trans c4
  clear AL c0 c1 c2 c3 c4
  have Ci : Fx w5.heap.size 32 (s.l n1) (w5.alloc (.cells (s.l n1).toArray 32)) := heap_alloc_new w5 _
  have AP := hide Ci
  have DF := hide (AK.out.trans ((ae w5 (.cells (s.l n1).toArray 32)).mono AK.out.size))
  clear Ci
  go_upto_region 9 with fail
  change Code.wp _ _ _ _ (w5.alloc (.cells (s.l n1).toArray 32))
  clear d0 d1 d2 d3 d4
  have Am := hide (ae w5 (.cells (s.l n1).toArray 32))
  generalize w5.alloc (.cells (s.l n1).toArray 32) = w6 at *
  obtain ⟨CH, Bd⟩ : ∃ b, w5.heap.size = b := ⟨_, rfl⟩
  have CZ := hide Bd
  rw [Bd] at AP ⊢
  clear Bd
  have BS : Hid (LI b5 b8 wm mb l m (fun _ => false) w6) := hide (by
   have h1 := Ar.out.trans (Am.out.mono Ar.out.size)
   have h2 := Ak.out.trans (h1.mono Ak.out.size)
   exact ⟨AU.out.keep (h1.block _ AU.out.lt), AN.out.keep (h1.block _ AN.out.lt), Cc.out.keep (h2.block _ Cc.out.lt), es, clock, _, (h2.block _ (aE BA.out)).trans BA.out, Cx.out⟩)
  have WN := hide (fun W0 : Nat → Bool => vV (n := K.n) (b5 := b5) (b8 := b8) (wm := wm) (mb := mb) (m := m) (l := l) (W0 := W0) DL (by omega) HM.out (by omega))
  have CK : Hid (Calls Tryz.prog 97 #[.int .i64 (q1 : Int), .int .i64 (j1 : Int), aa b8, aa b5] w6 fun e w' => e = .returned (.tuple #[]) ∧ ∃ Z2, Pz (vy b5 b8 wm mb l m fun _ => false) (fun k => k = wm) w6 Z2 [((q1 : Int), (j1 : Int))] w') := hide (by
   obtain ⟨k, DX, e, -, hc⟩ := (WN.out fun _ => false).call
   cases e
   exact hc (fun k => k = wm) [] w6 _ _ ⟨rfl, BS.out⟩ ⟨by omega, by have := AO.out; omega, by have := AO.out; unfold aw; omega⟩)
  have f0 : w6.cell? ⟨CH, 0, none⟩ = some (.int .i64 (j1 : Int)) := by rw [← AO.out.2.1]; exact AP.out.get (i := 0) rfl
  have f1 : w6.cell? ⟨CH, 1, none⟩ = some (.int .i64 (q1 : Int)) := by rw [← AO.out.1]; exact AP.out.get (i := 1) rfl
  have f9 := (AD.out.keep (Am.out.block _ AD.out.lt)).get (i := 0) rfl
  go_upto_region 9 with fail
  go_wp2_with fail
  refine CK.out.mono ?_
  rintro _ w7 ⟨rfl, Z7, CP⟩
  have AC := hide CP
  clear CP CK f0 f1 f9 AP
  obtain ⟨W1, Cf⟩ : ∃ W1, eG l (fun _ => false) [((q1 : Int), (j1 : Int))] = W1 := ⟨_, rfl⟩
  have Dz := hide Cf
  have BJ : Hid (LI b5 b8 wm mb l m W1 w7) := hide (by rw [← Cf]; exact AC.out.inv.2)
  clear Cf
  have AS := hide (kN w7 (some ⟨g1, o1, none⟩) m lc)
  go_wp2_with (go_at_call 96; refine AS.out.mono ?_; rintro _ wD ⟨b2, rfl, AV, AT, Bb⟩; have Bs := hide AV; have Av := hide AT; have BN := hide Bb; clear AV AT Bb AS)
  have By : Hid (∀ g, g < wC.heap.size → wD.heap[g]? = wC.heap[g]?) := hide fun g hg => by
   have z := Ae.out
   have s4 := Ak.out.size
   have s5 := Ar.out.size
   have s6 := Am.out.size
   have s7 := AC.out.fr.size
   rw [Av.out.block g (by omega), AC.out.fr.block g (by omega) (by omega), Am.out.block g (by omega), AK.out.block g hg]
  have AA : Hid (wC.heap.size ≤ w4.heap.size ∧ w4.heap.size ≤ w5.heap.size ∧ w5.heap.size ≤ w6.heap.size ∧ w6.heap.size ≤ w7.heap.size ∧ w7.heap.size ≤ wD.heap.size ∧ w7.heap.size ≤ b2 ∧ b2 < wD.heap.size) := hide ⟨Ak.out.size, Ar.out.size, Am.out.size, AC.out.fr.size, Av.out.size, BN.out, Bs.out.lt⟩
  have AB : Hid (Below w.heap.size w wD) := hide (by
   have h1 := Aj.out.trans (AK.out.mono Aj.out.size)
   have h2 := h1.trans (Am.out.mono h1.size)
   have h3 := h2.trans (show Below w.heap.size w6 w7 from AC.out.fr.below fun k hk => ⟨by have := h2.size; omega, fun e => by have := Ae.out; have := Aj.out.size; omega⟩)
   exact h3.trans (Av.out.mono h3.size))
  have Bg := hide (BJ.out.go Av.out)
  have H9D : Hid (Fx b9 87 [.func (.func 97) #[] #[aa b8, aa b5]] wD) := hide (((AD.out.keep (Am.out.block _ AD.out.lt)).keep (AC.out.fr.block _ (by have := Ae.out; have := AA.out; omega) (by have := Ae.out; omega))).keep (Av.out.block _ (by have := Ae.out; have := AA.out; omega)))
  have H0D := hide (BP.out.keep (By.out _ BP.out.lt))
  have BU := hide ((By.out _ (aE Bi.out)).trans Bi.out)
  have Bt : Hid (D < wC.heap.size) := hide (aE Bi.out)
  clear Ak Ar Am AU AN AD BS AC Av BN BJ AK DF BP Cc BA Cx Bi Du BI CF CZ
  refine (wpIn_wide (n := 3)).1 ?_
  refine lQ 11 12 (bb := b2) (len := m) (lc := lc) (la := some ⟨g1, o1, none⟩) (s := s) (p1 := 46) (p2 := 47) 3 (by omega) (by omega) rfl (enters_go Tryz.func133 (by kernel_rfl) (by kernel_rfl))
   (fun k W => k ≤ m ∧ Fr (fun g => g = wm) wD W ∧ ∃ Wk, eH T l m W1 = eH T l k Wk ∧ LI b5 b8 wm mb l m Wk W) ?hst ?hE ?hS ?h0 ?assign ?body ?done
  case hst =>
   rintro k W W' ⟨h1, h2, Wk, h3, h4⟩ hb
   exact ⟨h1, tN h2 hb, Wk, h3, h4.keep fun g hg => hb.block g (by
    have := Bg.out.lt
    rcases hg with rfl | rfl | rfl | rfl <;> omega)⟩
  case hE =>
   rintro k W ⟨h1, h2, -⟩
   have z := Ae.out
   have z2 := AA.out
   refine ⟨(Bs.out.keep (h2.block _ Bs.out.lt (by omega))).get (i := 0) rfl, fun i hi => ?_⟩
   obtain ⟨g, o, e, hg, c0, c1, c2, c3, c4⟩ := Bx.out i (by rw [HM.out]; exact hi)
   have hk : W.heap[g]? = w.heap[g]? := (h2.block g (by have := AB.out.size; omega) (by have := Aj.out.size; omega)).trans (AB.out.block g hg)
   exact ⟨g, o, e, (World.cell?_of_block hk).trans c0, (World.cell?_of_block hk).trans c1, (World.cell?_of_block hk).trans c2, (World.cell?_of_block hk).trans c3, (World.cell?_of_block hk).trans c4⟩
  case hS => exact fun k W h => h.2.1.size
  case h0 => exact ⟨Nat.le_refl _, Fr.refl _ _, W1, rfl, Bg.out⟩
  case assign =>
   intro l' k W K hK
   simp only [List.setIfInBounds_toArray, List.set_cons_succ, List.set_cons_zero] at hK ⊢
   gi_wp2
   exact hK
  case body =>
   intro l' k Bc W hI hk Au DW
   obtain ⟨-, Ao, Wk, BG, AJ⟩ := hI
   obtain ⟨x, hx⟩ := am (l := l) (i := k) (by rw [HM.out]; exact hk)
   obtain ⟨e1, e2, e3, e4, e5, AG⟩ := Bq.out k x hx
   have CW : Below w.heap.size w W := AB.out.trans (Ao.below fun i hi => ⟨by have := AB.out.size; omega, fun e => by have := Ae.out; have := Aj.out.size; omega⟩)
   have Br : Hid (eH T l (k + 1) Wk = eH T l k (if Wk k then eG l Wk (formM T x).2 else Wk)) := hide (by show eH T l k (if Wk k then (match l[k]? with | some s => eG l Wk (formM T s).2 | none => Wk) else Wk) = _; rw [hx])
   have c8 := AJ.b8.get (i := 0) rfl
   have cw := AJ.wx.get (jv hk)
   have Df := hide AJ
   have Bw := hide Ao
   have Bj := hide BG
   have Cr := hide hk
   simp only [Nat.reduceSub]
   cases hwk : Wk k with
   | false =>
    rw [hwk] at cw
    have HE : Hid (eH T l m W1 = eH T l k Wk) := hide (by rw [Bj.out, Br.out, hwk]; rfl)
    clear hwk Br Bj hx AG AJ Ao BG e1 e2 e3 e4 e5
    refine wpIn_block ?_
    gi_wp2
    exact ⟨⟨Nat.le_refl _, fun i o _ h1 _ => h1⟩, by have := Cr.out; omega, Bw.out, Wk, HE.out, Df.out⟩
   | true =>
    rw [hwk] at cw
    have HE : Hid (eH T l m W1 = eH T l k (eG l Wk (formM T x).2)) := hide (by rw [Bj.out, Br.out, hwk]; rfl)
    obtain ⟨g3, o3, Dy, Dg, -, -, -, -, -, -, -, Ab, -, Ba, AZ⟩ := HL.out k x hx
    have C := hide (lU (K := K) (T := T) (Inv := vy b5 b8 wm mb l m Wk) (Z := fun k => k = wm) (w := W) (l := []) (tag := x.tag) (lit := x.lit) (how := x.how) (rule := x.rule) (ch := x.ch) (ca := s.a k) (cc := s.c k) HT.out (HX.out.go CW) ⟨rfl, AJ⟩ (fun i hi => ⟨fun hs => by have := HX.out.lt i hs; have := Ae.out; have := Aj.out.size; omega, by have := HX.out.n0; have := Ae.out; have := Aj.out.size; omega⟩) (WN.out Wk) Ba AZ Ab (AG.keep fun g hg => CW.block g hg).chs (fun g o e hne => fun e2 => by
     obtain ⟨c0, DD⟩ := am (l := x.ch) (i := 0) (by cases hz : x.ch with | nil => exact absurd hz hne | cons => simp)
     obtain ⟨g', o', e', hg', -, -⟩ := AG 0 c0 DD
     rw [e] at e'
     cases e'
     have := Ae.out
     have := Aj.out.size
     omega))
    have t0 : W.cell? ⟨Bc, 0, none⟩ = some (.int .i64 x.tag) := by rw [← e1]; exact Au.get (i := 0) rfl
    have t1 : W.cell? ⟨Bc, 1, none⟩ = some (.int .i64 x.lit) := by rw [← e2]; exact Au.get (i := 1) rfl
    have t2 : W.cell? ⟨Bc, 2, none⟩ = some (.int .i64 x.how) := by rw [← e3]; exact Au.get (i := 2) rfl
    have t3 : W.cell? ⟨Bc, 3, none⟩ = some (.int .i64 x.rule) := by rw [← e4]; exact Au.get (i := 3) rfl
    have t4 : W.cell? ⟨Bc, 4, none⟩ = some (.slice (s.a k) x.ch.length (s.c k)) := by rw [← e5]; exact Au.get (i := 4) rfl
    have f9 := (H9D.out.keep (Ao.block _ H9D.out.lt (by have := Ae.out; omega))).get (i := 0) rfl
    have f0 := (H0D.out.keep (Ao.block _ H0D.out.lt (by have := Aw.out; have := Ae.out; have := CN.out.size; omega))).get (i := 0) rfl
    clear hwk Br Bj hx AG AJ Ao BG e1 e2 e3 e4 e5 Ab Ba AZ Au
    obtain ⟨fm, BM⟩ : ∃ z, formM T ⟨x.tag, x.lit, x.how, x.rule, x.ch⟩ = z := ⟨_, rfl⟩
    rw [BM] at C
    have Do : Hid (eH T l m W1 = eH T l k (eG l Wk fm.2)) := hide (by rw [← BM]; exact HE.out)
    obtain ⟨Ah, Ag, Ai, Af, AF⟩ := x
    simp only at C t0 t1 t2 t3 t4
    clear BM HE
    refine wpIn_block ?_
    gi_wp2_with (refine ⟨trivial, ?_⟩; gi_at_call 40; refine (CallsIn.inRound l' (callsIn_wide.2 C.out)).mono ?_; rintro _ w8 ⟨rfl, Z8, Cn⟩; have Bu := hide Cn; clear Cn C)
    exact ⟨⟨Bu.out.fr.size, fun i o hi h1 h2 => (Bu.out.fr.block i (aE h1) (by have := Ae.out; have := AA.out; omega)).trans h1⟩, by have := Cr.out; omega, Bw.out.trans Bu.out.fr, _, Do.out, Bu.out.inv.2⟩
  case done =>
   intro D2 wE DR hI At
   obtain ⟨-, Ch, Wf, Cw, Az⟩ := hI
   have Dh : Hid (jD T l = dW Wf 0 l) := hide (by
    have AM := DT.out
    unfold jD
    rw [HM.out, show m - 1 = n1 by have := Dx.out; omega, AM]
    show dW (eH T l m (eG l (fun _ => false) [(x1.lit, x1.tag)])) 0 l = _
    rw [AO.out.2.2.1, AO.out.2.2.2.1, Dz.out, Cw]
    rfl)
   have Ax : Hid (Below w.heap.size w wE) := hide (AB.out.trans (Ch.below fun i hi => ⟨by have := AB.out.size; omega, fun e => by have := Ae.out; have := Aj.out.size; omega⟩))
   have Dj : Hid (wE.heap[D]? = some (.deferred (some []))) := hide ((Ch.block D (by have := AA.out; have := Bt.out; omega) (by have := Ae.out; have := Bt.out; omega)).trans BU.out)
   have HD2E := hide At
   have AE : Hid (D < D2 ∧ D2 < wE.heap.size ∧ w.heap.size ≤ D) := hide ⟨by have := Bt.out; have := AA.out; omega, aE At, by have := CS.out; have := Aw.out; omega⟩
   have BL := hide Az.wx
   have HB8E := hide Az.b8
   have Ef : Hid (wm < wE.heap.size ∧ b8 < wE.heap.size) := hide ⟨Az.wx.lt, Az.b8.lt⟩
   obtain ⟨iC, Dt, DN, DE, Dp⟩ := info_parts qE
   obtain ⟨iS, Di, Dw, DO, DG⟩ := info_parts rX
   clear Ch Cw Az At DR AB By Bg H9D H0D BU AA CN Aj Bs Bt CS BV
   go_wp2_with fail
   go_loopw [13, 58] (fun u x wr => ∃ (k n : Nat) (tl : List StM) (ma : Option Addr) (mc : Nat), k ≤ m ∧ n ≤ k ∧ Hid (tl.length = n) ∧ x = .int .i64 k ∧ u = .slice ma n mc ∧ Hid (Gy 32 5 iZ wE.heap.size tl (.slice ma n mc) wr) ∧ Hid (dW Wf 0 l = tl ++ dW Wf k (l.drop k)) ∧ Hid (Below wE.heap.size wE wr)) (fun _ x _ => m - (intOf x).toNat)
   case atStart => exact ⟨0, 0, [], none, 0, by omega, by omega, hide rfl, rfl, rfl, hide Gy.nil, hide (by rw [List.drop_zero]; rfl), hide (Below.refl _ _)⟩
   case round =>
    obtain ⟨k, n, tl, ma, mc, hk, Ek, Bl, rfl, rfl, HG, AH, As⟩ := hrel
    by_cases hlt : k < m
    · obtain ⟨x, hx⟩ := am (l := l) (i := k) (by rw [HM.out]; exact hlt)
      obtain ⟨e1, e2, e3, e4, e5, AG⟩ := Bq.out k x hx
      obtain ⟨g3, o3, Dy, Dg, -, -, -, -, -, -, -, Ab, -, Ba, AZ⟩ := HL.out k x hx
      obtain ⟨g, o, DJ, hg, c0, c1, c2, c3, c4⟩ := Bx.out k (by rw [HM.out]; exact hlt)
      cases DJ
      have AI : wr.heap[g1]? = w.heap[g1]? := (As.out.block g1 (by have := Ax.out.size; omega)).trans (Ax.out.block g1 hg)
      have d0 := (World.cell?_of_block (a := ⟨g1, o1 + k * 5, none⟩) AI).trans c0
      have d1 := (World.cell?_of_block (a := ⟨g1, o1 + k * 5 + 1, none⟩) AI).trans c1
      have d2 := (World.cell?_of_block (a := ⟨g1, o1 + k * 5 + 2, none⟩) AI).trans c2
      have d3 := (World.cell?_of_block (a := ⟨g1, o1 + k * 5 + 3, none⟩) AI).trans c3
      have d4 := (World.cell?_of_block (a := ⟨g1, o1 + k * 5 + 4, none⟩) AI).trans c4
      rw [e1] at d0
      rw [e2] at d1
      rw [e3] at d2
      rw [e4] at d3
      rw [e5] at d4
      have Bv : Hid (dW Wf k (l.drop k) = if Wf k then x :: dW Wf (k + 1) (l.drop (k + 1)) else dW Wf (k + 1) (l.drop (k + 1))) := hide (by rw [aN hx]; rfl)
      have hA := ae wr (.cells #[.int .i64 x.tag, .int .i64 x.lit, .int .i64 x.how, .int .i64 x.rule, .slice (s.a k) x.ch.length (s.c k)] 32)
      have hQ : Fx wr.heap.size 32 [.int .i64 x.tag, .int .i64 x.lit, .int .i64 x.how, .int .i64 x.rule, .slice (s.a k) x.ch.length (s.c k)] (wr.alloc (.cells #[.int .i64 x.tag, .int .i64 x.lit, .int .i64 x.how, .int .i64 x.rule, .slice (s.a k) x.ch.length (s.c k)] 32)) := heap_alloc_new wr _
      have Bk : Hid (Src Tryz.prog 2 30 (.slice (s.a k) x.ch.length (s.c k)) x.ch.length (prs x.ch) (wr.alloc (.cells #[.int .i64 x.tag, .int .i64 x.lit, .int .i64 x.how, .int .i64 x.rule, .slice (s.a k) x.ch.length (s.c k)] 32))) := hide (yB ((AG.keep (w' := wr.alloc (.cells #[.int .i64 x.tag, .int .i64 x.lit, .int .i64 x.how, .int .i64 x.rule, .slice (s.a k) x.ch.length (s.c k)] 32)) fun g hg => (hA.block g (by have := As.out.size; have := Ax.out.size; omega)).trans ((As.out.block g (by have := Ax.out.size; omega)).trans (Ax.out.block g hg))).chs))
      have HA := hide hA
      have HQ := hide hQ
      have Es := hide (And.intro Ba AZ)
      have BE := DS.out x (List.mem_of_getElem? hx)
      clear AI c0 c1 c2 c3 c4 e1 e2 e3 e4 e5 AG hx hA hQ Ba AZ
      obtain ⟨Ah, Ag, Ai, Af, AF⟩ := x
      simp only at d0 d1 d2 d3 d4 Bk HQ HA Ab BE
      have Eb : Hid (Exists fun z : StM => z = ⟨Ah, Ag, Ai, Af, AF⟩) := hide ⟨_, rfl⟩
      obtain ⟨cn, BF⟩ : ∃ c, AF.length = c := ⟨_, rfl⟩
      have CU := hide BF
      rw [BF] at d4 Bk HQ HA Ab BE
      clear BF
      go_upto_region 19 with fail
      clear d0 d1 d2 d3 d4
      generalize wr.alloc (.cells #[.int .i64 Ah, .int .i64 Ag, .int .i64 Ai, .int .i64 Af, .slice (s.a k) cn (s.c k)] 32) = w1 at *
      obtain ⟨Aq, Bf⟩ : ∃ b, wr.heap.size = b := ⟨_, rfl⟩
      have CX := hide Bf
      rw [Bf] at HQ ⊢
      clear Bf
      have AR := hide (As.out.trans (HA.out.mono As.out.size))
      have c8 := (HB8E.out.keep (AR.out.block _ HB8E.out.lt)).get (i := 0) rfl
      have cw := (BL.out.keep (AR.out.block _ BL.out.lt)).get (jv hlt)
      cases hwk : Wf k with
      | false =>
       rw [hwk] at cw
       have HE : Hid (dW Wf 0 l = tl ++ dW Wf (k + 1) (l.drop (k + 1))) := hide (by rw [AH.out, Bv.out, hwk]; rfl)
       have DM := hide (HG.out.keep gP (wd := w1) (fun g h1 h2 => HA.out.block g h2) HA.out.size)
       clear hwk Bv AH HG
       go_wp2_with fail
       go_roundw
       case rel => exact ⟨k + 1, n, tl, ma, mc, by omega, by omega, Bl, by go_num, rfl, DM, HE, AR⟩
       case measure => simp [intOf]; omega
      | true =>
       rw [hwk] at cw
       have HE : Hid (dW Wf 0 l = (tl ++ [⟨Ah, Ag, Ai, Af, AF⟩]) ++ dW Wf (k + 1) (l.drop (k + 1))) := hide (by rw [AH.out, Bv.out, hwk, List.append_assoc]; rfl)
       clear hwk Bv AH
       have k4 := HQ.out.get (i := 4) rfl
       have Cm : Hid (w1.ownsRow w1.heap.size 100 2 (.slice none 0 0) 0 []) := hide ⟨rfl, .inl ⟨rfl, rfl⟩⟩
       go_upto_region 20 with fail
       go_upto_region 21 with (at_builtin; go_must (refine gR _ (Nat.le_refl _) (by rfl) _ _ 30 30 rfl 100 iC _ 2 16 Tryz.underlying30 Dt DN DE Dp rfl (.slice none 0 0) 0 [] rfl Cm.out (.slice (s.a k) cn (s.c k)) cn (prs AF) rfl Bk.out (by unfold maxLen; omega) (by omega) ?_); intro v4 w4 Ay Cy CY; rw [Nat.zero_add, List.nil_append] at Ay; obtain ⟨a4, c4, rfl⟩ := bf Ay; have Cz := hide Ay; have Ak : Hid (Below w1.heap.size w1 w4) := hide ((Fr.of_grown (Z := fun _ => False) Cy (fun k e => by simp [Value.ownBlock] at e)).below fun k hk => ⟨hk, fun h => h⟩); have Bo := hide (HQ.out.keep (Ak.out.block _ HQ.out.lt)); have z4 := Bo.out.frz 4; have y4 := Bo.out.get (i := 4) rfl; clear Ay Cy CY)
       have AW : Hid (Fx Aq 32 [.int .i64 Ah, .int .i64 Ag, .int .i64 Ai, .int .i64 Af, .slice a4 cn c4] (w4.setCell ⟨Aq, 4, none⟩ (.slice a4 cn c4))) := hide (Bo.out.set 4 (.slice a4 cn c4))
       have DV := HQ.out.lt
       have Bz := hide (owns_keep (w' := w4.setCell ⟨Aq, 4, none⟩ (.slice a4 cn c4)) Cz.out fun g hg => other_set (by have := (Cz.out.lt g hg).1; omega))
       have s1 := HA.out.size
       have s4 := Ak.out.size
       have s5 := As.out.size
       have Ei := CX.out
       have Ea : w4.heap.size ≤ (w4.setCell ⟨Aq, 4, none⟩ (.slice a4 cn c4)).heap.size := by simp
       have CA : Hid (∀ g, wE.heap.size ≤ g → g < wr.heap.size → (w4.setCell ⟨Aq, 4, none⟩ (.slice a4 cn c4)).heap[g]? = wr.heap[g]?) := hide fun g h1 h2 => by
        rw [other_set (by omega), Ak.out.block g (by omega), HA.out.block g h2]
       have Ar : Hid (Below wE.heap.size wE (w4.setCell ⟨Aq, 4, none⟩ (.slice a4 cn c4))) := hide ((AR.out.trans (Ak.out.mono AR.out.size)).setCell (p := ⟨Aq, 4, none⟩) (by show wE.heap.size ≤ Aq; omega) _)
       clear k4 z4 y4 c8 cw Bo HQ Cm Bk
       generalize w4.setCell ⟨Aq, 4, none⟩ (.slice a4 cn c4) = w5 at *
       have f0 := AW.out.get (i := 0) rfl
       have f1 := AW.out.get (i := 1) rfl
       have f2 := AW.out.get (i := 2) rfl
       have f3 := AW.out.get (i := 3) rfl
       have f4 := AW.out.get (i := 4) rfl
       obtain ⟨Z, xs, Al, hz, Be⟩ := HG.out
       rw [Bl.out] at Al
       have Ck := hide Al
       have HZ := hide hz
       have Db := hide Be
       have Da := hide (owns_keep Al fun g hg => ((ae w5 (.cells #[.int .i64 Ah, .int .i64 Ag, .int .i64 Ai, .int .i64 Af, .slice a4 cn c4] 32)).block g (by have := (Al.lt g hg).2; omega)).trans (CA.out g (Al.lt g hg).1 (Al.lt g hg).2))
       have DB : Hid (∀ g, Value.ownBlock (.slice ma n mc) = some g → wE.heap.size ≤ g) := hide fun g e => (Al.lt g e).1
       clear Al hz Be HG
       go_wp2_with (at_builtin; go_must (refine bt _ rfl _ _ 27 rfl wE.heap.size 32 iS _ 5 56 Tryz.underlying27 Di Dw DO DG rfl (by decide) (.slice ma n mc) n xs rfl Da.out ⟨w5.heap.size, 0, none⟩ 1 [.int .i64 Ah, .int .i64 Ag, .int .i64 Ai, .int .i64 Af, .slice a4 cn c4] rfl rfl (lK (cs := [.int .i64 Ah, .int .i64 Ag, .int .i64 Ai, .int .i64 Af, .slice a4 cn c4]) rfl) (by intro u hu; simp at hu; rcases hu with rfl | rfl | rfl | rfl | rfl <;> rfl) (by unfold maxLen; omega) (by omega) (by simp; omega) ?_); intro g4 BQ w6 Bh Cu; have Dm := hide Bh; have CL := hide Cu; clear Bh Cu)
       have Dr : Hid (Fr (fun k => wE.heap.size ≤ k) w5 w6) := hide (dl rfl (by rcases CL.out with h | ⟨h1, h2⟩; exact .inl h; exact .inr ⟨by simpa using h1, h2⟩) DB.out)
       have DH : Hid (Gy 32 5 iZ wE.heap.size (tl ++ [⟨Ah, Ag, Ai, Af, AF⟩]) (.slice (some ⟨g4, 0, none⟩) (n + 1) BQ) w6) := hide (Gy.grow (Zn := fun g => Value.ownBlock (.slice a4 cn c4) = some g) gP Bl.out Ck.out HZ.out Db.out CA.out (by omega) (by omega) (fun g hg => ⟨by have := (Bz.out.lt g hg).1; omega, (Bz.out.lt g hg).2⟩) ⟨.slice a4 cn c4, rfl, rG (by rw [CU.out]; exact Bz.out) (fun g e => e) (by rw [CU.out]; exact Ab)⟩ rfl Dm.out (by rcases CL.out with h | ⟨h1, h2⟩; exact .inl h; exact .inr ⟨by simpa using h1, h2⟩))
       have Am : Hid (Below wE.heap.size wE w6) := hide (Ar.out.trans (Dr.out.below fun k hk => ⟨by have := Ar.out.size; omega, by omega⟩))
       go_roundw
       case rel => exact ⟨k + 1, n + 1, tl ++ [⟨Ah, Ag, Ai, Af, AF⟩], some ⟨g4, 0, none⟩, BQ, by omega, by omega, hide (by rw [List.length_append, Bl.out]; rfl), by go_num, rfl, DH, HE, Am⟩
       case measure => simp [intOf]; omega
    · have HE : Hid (jD T l = tl) := hide (by rw [Dh.out, AH.out, List.drop_eq_nil_of_le (by rw [HM.out]; omega)]; unfold dW; rw [List.append_nil])
      have Dd := hide ((As.out.block D (by have := AE.out; omega)).trans Dj.out)
      have HD2E2 := hide ((As.out.block D2 (by have := AE.out; omega)).trans HD2E.out)
      clear AH
      go_wp2_with fail
      refine ⟨by simp, .inl ⟨_, _, rfl, run_takeDeferred HD2E2.out, ?_⟩⟩
      have Dc : Hid ((wr.putObj D2 (.deferred none)).heap[D]? = some (.deferred (some []))) := hide ((World.putObj_heap_other (by have := AE.out; omega)).trans Dd.out)
      refine ⟨by simp, .inl ⟨_, _, rfl, run_takeDeferred Dc.out, ?_⟩⟩
      refine ⟨.slice ma n mc, by simp [results, go_sem], .slice ma n mc, rfl, ?_, ?_⟩
      · rw [HE.out]
        have hk : ∀ g, wE.heap.size ≤ g → ((wr.putObj D2 (.deferred none)).putObj D (.deferred none)).heap[g]? = wr.heap[g]? := fun g hg => by
         rw [World.putObj_heap_other (by have := AE.out; omega), World.putObj_heap_other (by have := AE.out; omega)]
        exact (HG.out.keep gP (fun g h1 _ => hk g h1) (by simp)).down Ax.out.size
      · have h1 := Ax.out.trans (As.out.mono Ax.out.size)
        exact h1.trans ⟨rfl, rfl, rfl, by simp, fun i hi => by rw [World.putObj_heap_other (by have := AE.out; omega), World.putObj_heap_other (by have := AE.out; omega)]⟩
end
end Go.Proofs.YtmlhcncagdfjfaaGreat.De
