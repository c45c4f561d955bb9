import Derived.Test.YtmlhcncagdfjfaaGreatLnA
import Derived.Test.YtmlhcncagdfjfaaGreatDrM
set_option maxRecDepth 100000
set_option maxHeartbeats 25600000
namespace Go.Proofs.YtmlhcncagdfjfaaGreat.De
open Go.RowKit Fa Go.Shelf Rg
open Go.ChangeMaps (setBlock heap_setBlock_same heap_setBlock_other)
attribute [local go_sem] Oper.semAt_some
def qt (b7 mb q j k : Nat) (i : Nat) (v : Value) (_ : World) (_ _ : Nat) : Prop := match i with
 | 0 => v = .map (some mb)
 | 1 => v = .pointer (some ⟨b7, 1, none⟩)
 | 2 => v = .int .i64 (q : Int)
 | 3 => v = .pointer (some ⟨b7, 0, none⟩)
 | 4 => v = .int .i64 (j : Int)
 | 5 => v = pk q j
 | 6 => v = .int .i64 (k : Int)
 | _ => True
theorem bY {b7 mb q j k : Nat} : ∀ i v W W' lo hi, qt b7 mb q j k i v W lo hi → hi ≤ W.heap.size → Below W.heap.size W W' → qt b7 mb q j k i v W' lo hi := fun _ _ _ _ _ _ h _ _ => h
def uD (mb : Nat) (V : Nat → Nat → Int) (c : Nat) (W0 : World) (_ : Nat → Value) (W : World) : Prop := Fr (fun g => g = mb) W0 W ∧ ∃ es clock, W.heap[mb]? = some (.map es clock) ∧ Mi V c es clock
theorem sD {w : World} {b clock : Nat} {es : Array MapEntry} {o : Obj} (hb : w.heap[b]? = some (.map es clock)) : Fr (fun g => g = b) w (setBlock w b o) := by
 refine ⟨rfl, rfl, rfl, by rw [ee]; exact Nat.le_refl _, fun i hi hz => heap_setBlock_other hb _ (fun e => hz e)⟩
section
variable {S : Nat → Prop} {N0 : Nat} {K : dh} {T : Th} {w : World} {l : List StM} {la : Option Addr} {lc : Nat}
theorem wM (hT : Wt T K.n) (hX : Xr S N0 K T w) (hl : Sts w.heap.size w l la) (hl0 : 0 < l.length) (hll : l.length ≤ 65536) (hls : ∀ s ∈ l, ∃ q j : Nat, s.lit = (q : Int) ∧ s.tag = (j : Int) ∧ q < K.n ∧ 1 ≤ j ∧ j ≤ 4) (hlc : ∀ s ∈ l, s.ch.length ≤ 1048576) :
    Calls Tryz.prog 57 #[aa K.q, .slice la l.length lc] w fun e w' => ∃ v, e = .returned v ∧ Gy 32 5 j3 w.heap.size (ke T l) v w' ∧ Below w.heap.size w w' := by
 have DX : Tryz.prog.follows .mixedOrders = true := by kernel_rfl
 have Ef := @run_makeMap Tryz.prog
 obtain ⟨iB, DT, Dy, DH, Dt⟩ := info_parts jG
 obtain ⟨s, CL, Cs⟩ := FP hl
 have Bt := hide CL
 have Bh := hide Cs
 have HL := hide hl
 have HT := hide hT
 have HX := hide hX
 have BU := hide hls
 have Dl := hide hlc
 obtain ⟨m, hm⟩ : ∃ m, l.length = m := ⟨_, rfl⟩
 have HM := hide hm
 have DK := hT.n4
 rw [hm] at hl0 hll ⊢
 have Ek : ∀ W, (Instr.makeSlice 106 (.int .i64 (m : Int)) (.int .i64 (m : Int))).run Tryz.prog W = .ok (aE W.heap.size m) (W.alloc (.cells (Array.replicate m (.bool false)) 4)) := fun W => aI (P := Tryz.prog) Tryz.underlying106 DT Dy DH rfl m (by rw [Dt]; omega) (by unfold maxLen; omega) W
 clear hT hX hl hls CL Cs hm hlc
 have hB : Below w.heap.size w (((w.alloc (.cells #[aa K.q] 81)).alloc (.map #[] 0)).alloc (.cells #[.map (some (w.heap.size + 1))] 148)) := ((ac w _).trans ((ac _ _).mono (by simp))).trans ((ac _ _).mono (by simp; omega))
 have h0 : Fx w.heap.size 81 [aa K.q] (((w.alloc (.cells #[aa K.q] 81)).alloc (.map #[] 0)).alloc (.cells #[.map (some (w.heap.size + 1))] 148)) := by
  have e1 : (w.alloc (.cells #[aa K.q] 81)).heap[w.heap.size]? = some (.cells #[aa K.q] 81 (0, 0)) := heap_alloc_new w _
  exact (Below.heap_alloc _ _ _ (by simp; omega)).trans ((Below.heap_alloc _ _ _ (by simp)).trans e1)
 have h1 : (((w.alloc (.cells #[aa K.q] 81)).alloc (.map #[] 0)).alloc (.cells #[.map (some (w.heap.size + 1))] 148)).heap[w.heap.size + 1]? = some (.map #[] 0) := by
  have e1 := World.alloc_heap_new (w.alloc (.cells #[aa K.q] 81)) (.map #[] 0)
  rw [World.size_alloc] at e1
  exact (Below.heap_alloc _ _ _ (by simp)).trans e1
 have h5 : Fx (w.heap.size + 1 + 1) 148 [.map (some (w.heap.size + 1))] (((w.alloc (.cells #[aa K.q] 81)).alloc (.map #[] 0)).alloc (.cells #[.map (some (w.heap.size + 1))] 148)) := by
  have e1 := heap_alloc_new ((w.alloc (.cells #[aa K.q] 81)).alloc (.map #[] 0)) (.cells #[.map (some (w.heap.size + 1))] 148)
  simpa [Fx] using e1
 have HB := hide hB
 have H0 := hide h0
 have Bj := hide h1
 have H5 := hide h5
 clear hB h0 h1 h5
 refine callsIn_wide.1 (callsIn_of_wp_marks (n := 3) Tryz.func57 rfl trivial (wpIn_wide.2 ?_))
 simp only [Tryz.ntmps57, List.size_toArray, List.length_cons, List.length_nil, Nat.reduceAdd, Nat.reduceSub, Array.replicate_succ, Array.replicate_zero, List.push_toArray, List.append_toArray, List.nil_append, List.cons_append]
 go_upto_region 2 with fail
 generalize (((w.alloc (.cells #[aa K.q] 81)).alloc (.map #[] 0)).alloc (.cells #[.map (some (w.heap.size + 1))] 148)) = w2 at *
 obtain ⟨b0, Cg⟩ : ∃ b, w.heap.size = b := ⟨_, rfl⟩
 obtain ⟨mb, BX⟩ : ∃ b, w.heap.size + 1 = b := ⟨_, rfl⟩
 obtain ⟨b5, BY⟩ : ∃ b, w.heap.size + 1 + 1 = b := ⟨_, rfl⟩
 rw [BY] at H5 ⊢
 rw [BX] at H5 Bj ⊢
 have Bw := hide (And.intro Cg (And.intro BX BY))
 clear BX BY
 rw [Cg] at H0 ⊢
 clear Cg
 have Bb := hide (mH w2 la m lc)
 go_wp2_with (go_at_call 96; refine Bb.out.mono ?_; rintro _ wB ⟨bb, rfl, AQ, AT, Ba⟩; have BH := hide AQ; have Bc := hide AT; have CQ := hide Ba; clear AQ AT Ba Bb)
 have Aw : Hid (w.heap.size = b0 ∧ w.heap.size + 1 = mb ∧ w.heap.size + 1 + 1 = b5 ∧ b5 < w2.heap.size ∧ w2.heap.size ≤ bb ∧ bb < wB.heap.size) := hide ⟨Bw.out.1, Bw.out.2.1, Bw.out.2.2, H5.out.lt, CQ.out, BH.out.lt⟩
 have Bs := hide (HB.out.trans (Bc.out.mono HB.out.size))
 have BS := hide ((Bc.out.block mb (aO Bj.out)).trans Bj.out)
 have H5B := hide (H5.out.keep (Bc.out.block _ H5.out.lt))
 have H0B := hide (H0.out.keep (Bc.out.block _ H0.out.lt))
 have BT := hide (fun X : World => lh)
 clear HB Bc H0 Bj H5 Bw CQ BT
 refine (wpIn_wide (n := 3)).1 ?_
 refine nh 6 7 (bb := bb) (len := m) (lc := lc) (la := la) (s := s) (p1 := 19) (p2 := 20) 3 (by omega) (by omega) rfl (enters_go Tryz.func133 (by kernel_rfl) (by kernel_rfl))
  (fun k W => k ≤ m ∧ uD mb (kH l k) (m - k) wB (fun _ => undef) W) ?hst ?hE ?hS ?h0 ?assign ?body ?done
 case hst =>
  rintro k W W' ⟨h1, h2, es, clock, h3, h4⟩ hb
  exact ⟨h1, wh h2 hb, es, clock, (hb.block mb (aO BS.out)).trans h3, h4⟩
 case hE =>
  rintro k W ⟨h1, h2, -⟩
  have z := Aw.out
  refine ⟨(BH.out.keep (h2.block _ BH.out.lt (by omega))).get (i := 0) rfl, fun i hi => ?_⟩
  obtain ⟨g, o, e, hg, c0, c1, c2, c3, c4⟩ := Bh.out i (by rw [HM.out]; exact hi)
  have hk : W.heap[g]? = w.heap[g]? := (h2.block g (by omega) (by omega)).trans (Bs.out.block g hg)
  exact ⟨g, o, e, (World.cell?_of_block hk).trans c0, (World.cell?_of_block hk).trans c1, (World.cell?_of_block hk).trans c2, (World.cell?_of_block hk).trans c3, (World.cell?_of_block hk).trans c4⟩
 case hS => exact fun k W h => h.2.1.size
 case h0 => exact ⟨Nat.le_refl _, Fr.refl _ _, #[], 0, BS.out, by have e : kH l m = fun _ _ => 0 := (by rw [← HM.out]; exact A5); rw [e, Nat.sub_self]; exact Fb⟩
 case assign =>
  intro l' k W K hK
  simp only [List.setIfInBounds_toArray, List.set_cons_succ, List.set_cons_zero] at hK ⊢
  gi_wp2
  exact hK
 case body =>
  intro l' k b7 W hI hk Cx CX
  obtain ⟨x, hx⟩ := ap (l := l) (i := k) (by rw [HM.out]; exact hk)
  obtain ⟨q, j, hq, hj, Co, AX, CF⟩ := BU.out x (List.mem_of_getElem? hx)
  obtain ⟨e1, e2, -, -, -, -⟩ := Bt.out k x hx
  have Dp : s.q k = (q : Int) := e2.trans hq
  have Dg : s.t k = (j : Int) := e1.trans hj
  have DG : Hid (kH l k = nH (kH l (k + 1)) q j (k : Int)) := hide (yx hx hq hj)
  obtain ⟨-, Am, es, clock, CB, CI⟩ := hI
  have Bi := hide Am
  have Dh := hide CI
  have CU := hide CB
  have Cw := hide Cx
  have Cn := H5B.out.keep (Am.block _ H5B.out.lt (by have := Aw.out; omega))
  have H5W := hide Cn
  have HK := hide (And.intro hk (And.intro CX (And.intro Co CF)))
  clear hx hq hj e1 e2 Am CI CB Cx Cn Co AX CF
  obtain ⟨V, hV⟩ : ∃ V, kH l k = V := ⟨_, rfl⟩
  obtain ⟨c, hc⟩ : ∃ c, m - k = c := ⟨_, rfl⟩
  have HV := hide hV
  have HC := hide hc
  clear hV hc
  have HDr := hide ((Below.refl W.heap.size W).drew)
  obtain ⟨W0, CS⟩ : ∃ W0, W.drew = W0 := ⟨_, rfl⟩
  rw [CS] at HDr
  have Ap : Hid (gi [some 21, some 22, some 23, some 24, some 25, some 26, some 27, none] [(5, aa b5), (7, aa b7), (6, .int .i64 (k : Int))] = true) := hide rfl
  have Bz : Hid (∀ X, Below W0.heap.size W0 X → X.cell? ⟨b7, 0, none⟩ = some (.int .i64 (j : Int)) ∧ X.cell? ⟨b7, 1, none⟩ = some (.int .i64 (q : Int)) ∧ X.cell? ⟨b5, 0, none⟩ = some (.map (some mb))) := hide fun X hX => by
   have hb := HDr.out.trans (hX.mono HDr.out.size)
   have h7 := Cw.out.keep (hb.block _ Cw.out.lt)
   exact ⟨by rw [← Dg]; exact h7.get (i := 0) rfl, by rw [← Dp]; exact h7.get (i := 1) rfl, (H5W.out.keep (hb.block _ H5W.out.lt)).get (i := 0) rfl⟩
  have DC : Hid (∀ X, Below W0.heap.size W0 X → ∃ Ao Ad, (Instr.mapUpdate 148 (.map (some mb)) (pk q j) (.int .i64 (k : Int))).run Tryz.prog X = .ok () (setBlock X mb (.map Ao Ad)) ∧ uD mb V c W0 (fun _ => undef) (setBlock X mb (.map Ao Ad))) := hide fun X hX => by
   have hb := HDr.out.trans (hX.mono HDr.out.size)
   have BA : X.heap[mb]? = some (.map es clock) := (hb.block _ (aO CU.out)).trans CU.out
   obtain ⟨Ao, Ad, hr, hM⟩ := E6 BA Dh.out (s := q) (q := j) (by have := HK.out; omega) (by have := HK.out; omega) (by omega) (k : Int)
   refine ⟨Ao, Ad, hr, (Fr.of_below hX).trans (sD BA), Ao, Ad, heap_setBlock_same BA _, ?_⟩
   rw [← HV.out, DG.out, ← HC.out, show m - k = m - (k + 1) + 1 by omega]
   exact hM
  have BT : Hid (∀ X, Calls Tryz.prog 42 #[.int .i64 (q : Int), .int .i64 (j : Int)] X fun e w' => e = .returned (.agg #[.int .i64 (q : Int), .int .i64 (j : Int)]) ∧ Below X.heap.size X w') := hide fun X => lh _ _ X
  have DI : Hid (∀ args w', (callFunc 42 args).run Tryz.prog w' = .ok (.enter 42 args) w') := hide (enters_go Tryz.func42 (by kernel_rfl) (by kernel_rfl))
  simp only [List.setIfInBounds_toArray, List.set_cons_succ, List.set_cons_zero, Nat.reduceSub]
  refine wpIn_block ?_
  refine pI (Jl 7 [some 21, some 22, some 23, some 24, some 25, some 26, some 27, none] [(5, aa b5), (7, aa b7), (6, .int .i64 (k : Int))] (qt b7 mb q j k) (uD mb V c W0) W0) ?hq (by kernel_rfl) (by kernel_rfl) (by kernel_rfl) ?_ (cC ⟨?_, ?_, ?_, ?_, ?_, ?_, ?_, ?_, trivial⟩) ?_
  case hq => rintro ⟨a, w, h⟩; exact h
  · refine ⟨fun _ => ?_, fun e => by cases e⟩
    show Jg _ _ _ W0 _ _ W.drew
    rw [CS]
    exact Jg.start.2 fun p hp => by simp at hp; rcases hp with rfl | rfl | rfl <;> rfl
  · intro ρ X L hc hf hL hd Ab Ac
    have Aa : L 7 = false := am (by kernel_rfl) Ab (k := 0) (by simp) hL
    have hJ := Ac.1 Aa
    obtain ⟨c0, c1, c5⟩ := Bz.out X hJ.low
    have k5 : ρ (.tmp 5) = aa b5 := hJ.base (5, aa b5) (by simp)
    refine ae (v := .map (some mb)) (w' := X) ?_ ⟨fun _ => hJ.put Ap.out bY (i := 0) (d := 21) rfl (Below.refl _ _) (rfl), fun e => by rw [an (by decide), Aa] at e; cases e⟩
    clear hd Ab hJ Ac hL Aa
    go_simp
  · intro ρ X L hc hf hL hd Ab Ac
    have Aa : L 7 = false := am (by kernel_rfl) Ab (k := 1) (by simp) hL
    have hJ := Ac.1 Aa
    have k7 : ρ (.tmp 7) = aa b7 := hJ.base (7, aa b7) (by simp)
    refine ae (v := .pointer (some ⟨b7, 1, none⟩)) (w' := X) ?_ ⟨fun _ => hJ.put Ap.out bY (i := 1) (d := 22) rfl (Below.refl _ _) (rfl), fun e => by rw [an (by decide), Aa] at e; cases e⟩
    clear hd Ab hJ Ac hL Aa
    go_simp
  · intro ρ X L hc hf hL hd Ab Ac
    have Aa : L 7 = false := am (by kernel_rfl) Ab (k := 2) (by simp) hL
    have hJ := Ac.1 Aa
    obtain ⟨c0, c1, c5⟩ := Bz.out X hJ.low
    have Ed : ρ (.tmp 22) = .pointer (some ⟨b7, 1, none⟩) := by
     obtain ⟨_, _, _, e1⟩ := hJ.get (i := 1) (d := 22) rfl (hd ⟨1, .data⟩ (by simp) rfl)
     exact e1
    refine ae (v := .int .i64 (q : Int)) (w' := X) ?_ ⟨fun _ => hJ.put Ap.out bY (i := 2) (d := 23) rfl (Below.refl _ _) (rfl), fun e => by rw [an (by decide), Aa] at e; cases e⟩
    clear hd Ab hJ Ac hL Aa
    go_simp
  · intro ρ X L hc hf hL hd Ab Ac
    have Aa : L 7 = false := am (by kernel_rfl) Ab (k := 3) (by simp) hL
    have hJ := Ac.1 Aa
    have k7 : ρ (.tmp 7) = aa b7 := hJ.base (7, aa b7) (by simp)
    refine ae (v := .pointer (some ⟨b7, 0, none⟩)) (w' := X) ?_ ⟨fun _ => hJ.put Ap.out bY (i := 3) (d := 24) rfl (Below.refl _ _) (rfl), fun e => by rw [an (by decide), Aa] at e; cases e⟩
    clear hd Ab hJ Ac hL Aa
    go_simp
  · intro ρ X L hc hf hL hd Ab Ac
    have Aa : L 7 = false := am (by kernel_rfl) Ab (k := 4) (by simp) hL
    have hJ := Ac.1 Aa
    obtain ⟨c0, c1, c5⟩ := Bz.out X hJ.low
    have Ee : ρ (.tmp 24) = .pointer (some ⟨b7, 0, none⟩) := by
     obtain ⟨_, _, _, e1⟩ := hJ.get (i := 3) (d := 24) rfl (hd ⟨3, .data⟩ (by simp) rfl)
     exact e1
    refine ae (v := .int .i64 (j : Int)) (w' := X) ?_ ⟨fun _ => hJ.put Ap.out bY (i := 4) (d := 25) rfl (Below.refl _ _) (rfl), fun e => by rw [an (by decide), Aa] at e; cases e⟩
    clear hd Ab hJ Ac hL Aa
    go_simp
  · intro ρ X L hc hf hL hd Ab Ac
    have Aa : L 7 = false := am (by kernel_rfl) Ab (k := 5) (by simp) hL
    have hJ := Ac.1 Aa
    have Eo : ρ (.tmp 23) = .int .i64 (q : Int) := by
     obtain ⟨_, _, _, e1⟩ := hJ.get (i := 2) (d := 23) rfl (hd ⟨2, .data⟩ (by simp) rfl)
     exact e1
    have Ej : ρ (.tmp 25) = .int .i64 (j : Int) := by
     obtain ⟨_, _, _, e1⟩ := hJ.get (i := 4) (d := 25) rfl (hd ⟨4, .data⟩ (by simp) rfl)
     exact e1
    have hC := BT.out X
    have he := DI.out #[.int .i64 (q : Int), .int .i64 (j : Int)] X
    refine eM (f := 42) (args := #[.int .i64 (q : Int), .int .i64 (j : Int)]) (w' := X) ?_ hC ?_
    · clear hd Ab hJ Ac hL Aa hC
      go_simp
    · rintro _ Y ⟨rfl, hb⟩
      exact ⟨_, rfl, fun _ => hJ.put Ap.out bY (i := 5) (d := 26) rfl hb (rfl), fun e => by rw [an (by decide), Aa] at e; cases e⟩
  · intro ρ X L hc hf hL hd Ab Ac
    have Aa : L 7 = false := am (by kernel_rfl) Ab (k := 6) (by simp) hL
    have hJ := Ac.1 Aa
    have k6 : ρ (.tmp 6) = .int .i64 (k : Int) := hJ.base (6, .int .i64 (k : Int)) (by simp)
    refine ae (v := .int .i64 (k : Int)) (w' := X) ?_ ⟨fun _ => hJ.put Ap.out bY (i := 6) (d := 27) rfl (Below.refl _ _) (rfl), fun e => by rw [an (by decide), Aa] at e; cases e⟩
    clear hd Ab hJ Ac hL Aa
    go_simp
  · intro ρ X L hc hf hL hd Ab Ac
    have hJ := Ac.1 hL
    have El : ρ (.tmp 21) = .map (some mb) := by
     obtain ⟨_, _, _, e1⟩ := hJ.get (i := 0) (d := 21) rfl (hd ⟨0, .data⟩ (by simp) rfl)
     exact e1
    have Eh : ρ (.tmp 26) = pk q j := by
     obtain ⟨_, _, _, e1⟩ := hJ.get (i := 5) (d := 26) rfl (hd ⟨5, .data⟩ (by simp) rfl)
     exact e1
    have Eb : ρ (.tmp 27) = .int .i64 (k : Int) := by
     obtain ⟨_, _, _, e1⟩ := hJ.get (i := 6) (d := 27) rfl (hd ⟨6, .data⟩ (by simp) rfl)
     exact e1
    obtain ⟨Ao, Ad, Ea, hF⟩ := DC.out X hJ.low
    have BC : Hid (uD mb V c W0 (fY (fun s => ρ (.tmp s)) none undef) (setBlock X mb (.map Ao Ad))) := hide hF
    refine bV (w' := setBlock X mb (.map Ao Ad)) ?_ ⟨fun e => (by rw [aL] at e; cases e), fun _ => BC.out⟩
    clear hd Ab hJ Ac hL BC hF
    go_simp
  · rintro ⟨En, df⟩ w' Ei Es ⟨L, hL, hJ⟩ Bf
    obtain ⟨hf, Ao, Ad, Dn, DE⟩ := hJ.2 (hL 7 (by decide))
    have Cc : Fr (fun g => g = mb) W w' := (Fr.of_below HDr.out).trans hf
    refine ⟨⟨Cc.size, fun i o hi h1 h2 => (Cc.block i (aO h1) (by have := Aw.out; omega)).trans h1⟩, by have := HK.out; omega, Bi.out.trans Cc, Ao, Ad, Dn, ?_⟩
    rw [HV.out, HC.out]
    exact DE
 case done =>
  intro D wC hD hI At
  obtain ⟨-, AS, es, clock, Ct, CH⟩ := hI
  have CE := hide AS
  have Cj := hide Ct
  have Cm := hide CH
  have Bn := hide At
  have Cz := hide hD
  have Aj : Hid (Below w.heap.size w wC) := hide (Bs.out.trans (AS.below fun k hk => ⟨by have := Bs.out.size; omega, fun e => by have := Aw.out; omega⟩))
  have BV := hide (H5B.out.keep (AS.block _ H5B.out.lt (by have := Aw.out; omega)))
  have BI := hide (H0B.out.keep (AS.block _ H0B.out.lt (by have := Aw.out; omega)))
  have Dz := hide (HX.out.go Aj.out)
  clear AS Ct CH At hD Bs BS H5B H0B
  have CP : Below wC.heap.size wC ((wC.alloc (.cells (Array.replicate m (.bool false)) 4)).alloc (.cells #[aE wC.heap.size m] 106)) := (ac wC _).trans ((ac _ _).mono (by simp))
  have CJ : Fx wC.heap.size 4 (jv m fun _ => false) ((wC.alloc (.cells (Array.replicate m (.bool false)) 4)).alloc (.cells #[aE wC.heap.size m] 106)) := by
   have e1 : Fx wC.heap.size 4 (jv m fun _ => false) (wC.alloc (.cells (Array.replicate m (.bool false)) 4)) := by unfold Fx jv; rw [heap_alloc_new]; simp [List.map_const']
   exact e1.keep ((ac _ _).block _ e1.lt)
  have Cl : Fx (wC.heap.size + 1) 106 [aE wC.heap.size m] ((wC.alloc (.cells (Array.replicate m (.bool false)) 4)).alloc (.cells #[aE wC.heap.size m] 106)) := by
   have e1 := heap_alloc_new (wC.alloc (.cells (Array.replicate m (.bool false)) 4)) (.cells #[aE wC.heap.size m] 106)
   simpa [Fx] using e1
  have Ak := hide CP
  have AV := hide CJ
  have AI := hide Cl
  clear CP CJ Cl
  go_upto_region 7 with fail
  generalize ((wC.alloc (.cells (Array.replicate m (.bool false)) 4)).alloc (.cells #[aE wC.heap.size m] 106)) = w4 at *
  obtain ⟨wm, Ca⟩ : ∃ b, wC.heap.size = b := ⟨_, rfl⟩
  obtain ⟨b8, BJ⟩ : ∃ b, wC.heap.size + 1 = b := ⟨_, rfl⟩
  rw [BJ] at AI ⊢
  rw [Ca] at AV AI ⊢
  have BK := hide (And.intro Ca BJ)
  clear BJ Ca
  have Cy := ac w4 (.cells #[.func (.func 97) #[] #[aa b8, aa b5]] 87)
  have CA : Fx w4.heap.size 87 [.func (.func 97) #[] #[aa b8, aa b5]] (w4.alloc (.cells #[.func (.func 97) #[] #[aa b8, aa b5]] 87)) := heap_alloc_new w4 _
  have Ar := hide Cy
  have AD := hide CA
  clear Cy CA
  go_upto_region 8 with fail
  generalize w4.alloc (.cells #[.func (.func 97) #[] #[aa b8, aa b5]] 87) = w5 at *
  obtain ⟨b9, Ci⟩ : ∃ b, w4.heap.size = b := ⟨_, rfl⟩
  have CO := hide Ci
  rw [Ci] at AD ⊢
  clear Ci
  have AM : Hid (Below wC.heap.size wC w5) := hide (Ak.out.trans (Ar.out.mono Ak.out.size))
  have Ae : Hid (b9 < w5.heap.size ∧ b8 < w4.heap.size ∧ wm < w4.heap.size ∧ b9 = w4.heap.size ∧ wm = wC.heap.size ∧ b8 = wC.heap.size + 1) := hide ⟨AD.out.lt, AI.out.lt, AV.out.lt, CO.out.symm, BK.out.1.symm, BK.out.2.symm⟩
  obtain ⟨n1, CN⟩ : ∃ n1, m = n1 + 1 := ⟨m - 1, by omega⟩
  have Cb : n1 < m := by omega
  have e1 : IntKind.i64.wrap ((m : Int) - 1) = (n1 : Int) := by rw [IntKind.wrap_i64]; omega
  have DJ := hide CN
  obtain ⟨x1, AN⟩ := ap (l := l) (i := n1) (by rw [HM.out]; exact Cb)
  obtain ⟨q1, j1, BR, AX, BB, Ch, BN⟩ := BU.out x1 (List.mem_of_getElem? AN)
  obtain ⟨z1, z2, -, -, -, -⟩ := Bt.out n1 x1 AN
  have Do := hide AN
  have AK : Hid (s.q n1 = (q1 : Int) ∧ s.t n1 = (j1 : Int) ∧ x1.lit = (q1 : Int) ∧ x1.tag = (j1 : Int) ∧ q1 < K.n ∧ 1 ≤ j1 ∧ j1 ≤ 4) := hide ⟨z2.trans BR, z1.trans AX, BR, AX, BB, Ch, BN⟩
  clear CN AN BR AX BB Ch BN z1 z2
  obtain ⟨g1, o1, rfl, Dv, c0, c1, c2, c3, c4⟩ := Bh.out n1 (by rw [HM.out]; exact Cb)
  have AJ : w5.heap[g1]? = w.heap[g1]? := (AM.out.block g1 (by have := Aj.out.size; omega)).trans (Aj.out.block g1 Dv)
  have d0 := (World.cell?_of_block (a := ⟨g1, o1 + n1 * 5, none⟩) AJ).trans c0
  have d1 := (World.cell?_of_block (a := ⟨g1, o1 + n1 * 5 + 1, none⟩) AJ).trans c1
  have d2 := (World.cell?_of_block (a := ⟨g1, o1 + n1 * 5 + 2, none⟩) AJ).trans c2
  have d3 := (World.cell?_of_block (a := ⟨g1, o1 + n1 * 5 + 3, none⟩) AJ).trans c3
  have d4 := (World.cell?_of_block (a := ⟨g1, o1 + n1 * 5 + 4, none⟩) AJ).trans c4
  clear AJ c0 c1 c2 c3 c4
  have BZ : Fx w5.heap.size 32 (s.l n1) (w5.alloc (.cells (s.l n1).toArray 32)) := heap_alloc_new w5 _
  have AP := hide BZ
  have DA := hide (AM.out.trans ((ac w5 (.cells (s.l n1).toArray 32)).mono AM.out.size))
  clear BZ
  go_upto_region 9 with fail
  change Code.wp _ _ _ _ (w5.alloc (.cells (s.l n1).toArray 32))
  clear d0 d1 d2 d3 d4
  have An := hide (ac w5 (.cells (s.l n1).toArray 32))
  generalize w5.alloc (.cells (s.l n1).toArray 32) = w6 at *
  obtain ⟨Cq, Be⟩ : ∃ b, w5.heap.size = b := ⟨_, rfl⟩
  have Da := hide Be
  rw [Be] at AP ⊢
  clear Be
  have BE : Hid (LI b5 b8 wm mb l m (fun _ => false) w6) := hide (by
   have h1 := Ar.out.trans (An.out.mono Ar.out.size)
   have h2 := Ak.out.trans (h1.mono Ak.out.size)
   exact ⟨AV.out.keep (h1.block _ AV.out.lt), AI.out.keep (h1.block _ AI.out.lt), BV.out.keep (h2.block _ BV.out.lt), es, clock, _, (h2.block _ (aO Cj.out)).trans Cj.out, Cm.out⟩)
  have WN := hide (fun W0 : Nat → Bool => yk (n := K.n) (b5 := b5) (b8 := b8) (wm := wm) (mb := mb) (m := m) (l := l) (W0 := W0) DK (by omega) HM.out (by omega))
  have CW : Hid (Calls Tryz.prog 97 #[.int .i64 (q1 : Int), .int .i64 (j1 : Int), aa b8, aa b5] w6 fun e w' => e = .returned (.tuple #[]) ∧ ∃ Z2, Pz (yn b5 b8 wm mb l m fun _ => false) (fun k => k = wm) w6 Z2 [((q1 : Int), (j1 : Int))] w') := hide (by
   obtain ⟨k, DZ, e, -, hc⟩ := (WN.out fun _ => false).call
   cases e
   exact hc (fun k => k = wm) [] w6 _ _ ⟨rfl, BE.out⟩ ⟨by omega, by have := AK.out; omega, by have := AK.out; unfold ax; omega⟩)
  have f0 : w6.cell? ⟨Cq, 0, none⟩ = some (.int .i64 (j1 : Int)) := by rw [← AK.out.2.1]; exact AP.out.get (i := 0) rfl
  have f1 : w6.cell? ⟨Cq, 1, none⟩ = some (.int .i64 (q1 : Int)) := by rw [← AK.out.1]; exact AP.out.get (i := 1) rfl
  have f9 := (AD.out.keep (An.out.block _ AD.out.lt)).get (i := 0) rfl
  go_upto_region 9 with fail
  go_wp2_with fail
  refine CW.out.mono ?_
  rintro _ w7 ⟨rfl, Z7, CM⟩
  have AG := hide CM
  clear CM CW f0 f1 f9 AP
  obtain ⟨W1, BG⟩ : ∃ W1, fD l (fun _ => false) [((q1 : Int), (j1 : Int))] = W1 := ⟨_, rfl⟩
  have DF := hide BG
  have BL : Hid (LI b5 b8 wm mb l m W1 w7) := hide (by rw [← BG]; exact AG.out.inv.2)
  clear BG
  have Bb := hide (mH w7 (some ⟨g1, o1, none⟩) m lc)
  go_wp2_with (go_at_call 96; refine Bb.out.mono ?_; rintro _ wD ⟨b2, rfl, AQ, AT, Ba⟩; have Bo := hide AQ; have Av := hide AT; have BM := hide Ba; clear AQ AT Ba Bb)
  have Cd : Hid (∀ g, g < wC.heap.size → wD.heap[g]? = wC.heap[g]?) := hide fun g hg => by
   have z := Ae.out
   have s4 := Ak.out.size
   have s5 := Ar.out.size
   have s6 := An.out.size
   have s7 := AG.out.fr.size
   rw [Av.out.block g (by omega), AG.out.fr.block g (by omega) (by omega), An.out.block g (by omega), AM.out.block g hg]
  have AE : Hid (wC.heap.size ≤ w4.heap.size ∧ w4.heap.size ≤ w5.heap.size ∧ w5.heap.size ≤ w6.heap.size ∧ w6.heap.size ≤ w7.heap.size ∧ w7.heap.size ≤ wD.heap.size ∧ w7.heap.size ≤ b2 ∧ b2 < wD.heap.size) := hide ⟨Ak.out.size, Ar.out.size, An.out.size, AG.out.fr.size, Av.out.size, BM.out, Bo.out.lt⟩
  have AC : Hid (Below w.heap.size w wD) := hide (by
   have h1 := Aj.out.trans (AM.out.mono Aj.out.size)
   have h2 := h1.trans (An.out.mono h1.size)
   have h3 := h2.trans (show Below w.heap.size w6 w7 from AG.out.fr.below fun k hk => ⟨by have := h2.size; omega, fun e => by have := Ae.out; have := Aj.out.size; omega⟩)
   exact h3.trans (Av.out.mono h3.size))
  have Bd := hide (BL.out.go Av.out)
  have H9D : Hid (Fx b9 87 [.func (.func 97) #[] #[aa b8, aa b5]] wD) := hide (((AD.out.keep (An.out.block _ AD.out.lt)).keep (AG.out.fr.block _ (by have := Ae.out; have := AE.out; omega) (by have := Ae.out; omega))).keep (Av.out.block _ (by have := Ae.out; have := AE.out; omega)))
  have H0D := hide (BI.out.keep (Cd.out _ BI.out.lt))
  have BF := hide ((Cd.out _ (aO Bn.out)).trans Bn.out)
  have Bx : Hid (D < wC.heap.size) := hide (aO Bn.out)
  clear Ak Ar An AV AI AD BE AG Av BM BL AM DA BI BV Cj Cm Bn Dz BK CO Da
  refine (wpIn_wide (n := 3)).1 ?_
  refine nh 11 12 (bb := b2) (len := m) (lc := lc) (la := some ⟨g1, o1, none⟩) (s := s) (p1 := 46) (p2 := 47) 3 (by omega) (by omega) rfl (enters_go Tryz.func133 (by kernel_rfl) (by kernel_rfl))
   (fun k W => k ≤ m ∧ Fr (fun g => g = wm) wD W ∧ ∃ Wk, fy T l m W1 = fy T l k Wk ∧ LI b5 b8 wm mb l m Wk W) ?hst ?hE ?hS ?h0 ?assign ?body ?done
  case hst =>
   rintro k W W' ⟨h1, h2, Wk, h3, h4⟩ hb
   exact ⟨h1, wh h2 hb, Wk, h3, h4.keep fun g hg => hb.block g (by
    have := Bd.out.lt
    rcases hg with rfl | rfl | rfl | rfl <;> omega)⟩
  case hE =>
   rintro k W ⟨h1, h2, -⟩
   have z := Ae.out
   have z2 := AE.out
   refine ⟨(Bo.out.keep (h2.block _ Bo.out.lt (by omega))).get (i := 0) rfl, fun i hi => ?_⟩
   obtain ⟨g, o, e, hg, c0, c1, c2, c3, c4⟩ := Bh.out i (by rw [HM.out]; exact hi)
   have hk : W.heap[g]? = w.heap[g]? := (h2.block g (by have := AC.out.size; omega) (by have := Aj.out.size; omega)).trans (AC.out.block g hg)
   exact ⟨g, o, e, (World.cell?_of_block hk).trans c0, (World.cell?_of_block hk).trans c1, (World.cell?_of_block hk).trans c2, (World.cell?_of_block hk).trans c3, (World.cell?_of_block hk).trans c4⟩
  case hS => exact fun k W h => h.2.1.size
  case h0 => exact ⟨Nat.le_refl _, Fr.refl _ _, W1, rfl, Bd.out⟩
  case assign =>
   intro l' k W K hK
   simp only [List.setIfInBounds_toArray, List.set_cons_succ, List.set_cons_zero] at hK ⊢
   gi_wp2
   exact hK
  case body =>
   intro l' k AR W hI hk Au DW
   obtain ⟨-, Am, Wk, Cf, AH⟩ := hI
   obtain ⟨x, hx⟩ := ap (l := l) (i := k) (by rw [HM.out]; exact hk)
   obtain ⟨e1, e2, e3, e4, e5, AA⟩ := Bt.out k x hx
   have CD : Below w.heap.size w W := AC.out.trans (Am.below fun i hi => ⟨by have := AC.out.size; omega, fun e => by have := Ae.out; have := Aj.out.size; omega⟩)
   have Bl : Hid (fy T l (k + 1) Wk = fy T l k (if Wk k then fD l Wk (formM T x).2 else Wk)) := hide (by show fy T l k (if Wk k then (match l[k]? with | some s => fD l Wk (formM T s).2 | none => Wk) else Wk) = _; rw [hx])
   have c8 := AH.b8.get (i := 0) rfl
   have cw := AH.wx.get (kV hk)
   have Db := hide AH
   have Bi := hide Am
   have Bu := hide Cf
   have Cv := hide hk
   simp only [List.setIfInBounds_toArray, List.set_cons_succ, List.set_cons_zero, Nat.reduceSub]
   cases hwk : Wk k with
   | false =>
    rw [hwk] at cw
    have HE : Hid (fy T l m W1 = fy T l k Wk) := hide (by rw [Bu.out, Bl.out, hwk]; rfl)
    clear hwk Bl Bu hx AA AH Am Cf e1 e2 e3 e4 e5
    refine wpIn_block ?_
    gi_wp2
    exact ⟨⟨Nat.le_refl _, fun i o _ h1 _ => h1⟩, by have := Cv.out; omega, Bi.out, Wk, HE.out, Db.out⟩
   | true =>
    rw [hwk] at cw
    have HE : Hid (fy T l m W1 = fy T l k (fD l Wk (formM T x).2)) := hide (by rw [Bu.out, Bl.out, hwk]; rfl)
    obtain ⟨g3, o3, DO, Dr, -, -, -, -, -, -, -, Ab, -, AZ, AW⟩ := HL.out k x hx
    have C := hide (nk (K := K) (T := T) (Inv := yn b5 b8 wm mb l m Wk) (Z := fun k => k = wm) (w := W) (l := []) (tag := x.tag) (lit := x.lit) (how := x.how) (rule := x.rule) (ch := x.ch) (ca := s.a k) (cc := s.c k) HT.out (HX.out.go CD) ⟨rfl, AH⟩ (fun i hi => ⟨fun hs => by have := HX.out.lt i hs; have := Ae.out; have := Aj.out.size; omega, by have := HX.out.n0; have := Ae.out; have := Aj.out.size; omega⟩) (WN.out Wk) AZ AW Ab (AA.keep fun g hg => CD.block g hg).chs (fun g o e hne => fun e2 => by
     obtain ⟨c0, Di⟩ := ap (l := x.ch) (i := 0) (by cases hz : x.ch with | nil => exact absurd hz hne | cons => simp)
     obtain ⟨g', o', e', hg', -, -⟩ := AA 0 c0 Di
     rw [e] at e'
     cases e'
     have := Ae.out
     have := Aj.out.size
     omega))
    have t0 : W.cell? ⟨AR, 0, none⟩ = some (.int .i64 x.tag) := by rw [← e1]; exact Au.get (i := 0) rfl
    have t1 : W.cell? ⟨AR, 1, none⟩ = some (.int .i64 x.lit) := by rw [← e2]; exact Au.get (i := 1) rfl
    have t2 : W.cell? ⟨AR, 2, none⟩ = some (.int .i64 x.how) := by rw [← e3]; exact Au.get (i := 2) rfl
    have t3 : W.cell? ⟨AR, 3, none⟩ = some (.int .i64 x.rule) := by rw [← e4]; exact Au.get (i := 3) rfl
    have t4 : W.cell? ⟨AR, 4, none⟩ = some (.slice (s.a k) x.ch.length (s.c k)) := by rw [← e5]; exact Au.get (i := 4) rfl
    have f9 := (H9D.out.keep (Am.block _ H9D.out.lt (by have := Ae.out; omega))).get (i := 0) rfl
    have f0 := (H0D.out.keep (Am.block _ H0D.out.lt (by have := Aw.out; have := Ae.out; have := CE.out.size; omega))).get (i := 0) rfl
    clear hwk Bl Bu hx AA AH Am Cf e1 e2 e3 e4 e5 Ab AZ AW Au
    obtain ⟨fm, BD⟩ : ∃ z, formM T ⟨x.tag, x.lit, x.how, x.rule, x.ch⟩ = z := ⟨_, rfl⟩
    rw [BD] at C
    have DB : Hid (fy T l m W1 = fy T l k (fD l Wk fm.2)) := hide (by rw [← BD]; exact HE.out)
    obtain ⟨Ai, Ag, Ah, Af, Az⟩ := x
    simp only at C t0 t1 t2 t3 t4
    clear BD HE
    refine wpIn_block ?_
    gi_wp2_with (refine ⟨trivial, ?_⟩; gi_at_call 40; refine (CallsIn.inRound l' (callsIn_wide.2 C.out)).mono ?_; rintro _ w8 ⟨rfl, Z8, Cp⟩; have Bp := hide Cp; clear Cp C)
    exact ⟨⟨Bp.out.fr.size, fun i o hi h1 h2 => (Bp.out.fr.block i (aO h1) (by have := Ae.out; have := AE.out; omega)).trans h1⟩, by have := Cv.out; omega, Bi.out.trans Bp.out.fr, _, DB.out, Bp.out.inv.2⟩
  case done =>
   intro D2 wE DP hI At
   obtain ⟨-, BP, Wf, CR, AB⟩ := hI
   have DQ : Hid (ke T l = eV Wf 0 l) := hide (by
    have AN := Do.out
    unfold ke
    rw [HM.out, show m - 1 = n1 by have := DJ.out; omega, AN]
    show eV (fy T l m (fD l (fun _ => false) [(x1.lit, x1.tag)])) 0 l = _
    rw [AK.out.2.2.1, AK.out.2.2.2.1, DF.out, CR]
    rfl)
   have Ax : Hid (Below w.heap.size w wE) := hide (AC.out.trans (BP.below fun i hi => ⟨by have := AC.out.size; omega, fun e => by have := Ae.out; have := Aj.out.size; omega⟩))
   have Dj : Hid (wE.heap[D]? = some (.deferred (some []))) := hide ((BP.block D (by have := AE.out; have := Bx.out; omega) (by have := Ae.out; have := Bx.out; omega)).trans BF.out)
   have HD2E := hide At
   have AF : Hid (D < D2 ∧ D2 < wE.heap.size ∧ w.heap.size ≤ D) := hide ⟨by have := Bx.out; have := AE.out; omega, aO At, by have := Cz.out; have := Aw.out; omega⟩
   have By := hide AB.wx
   have HB8E := hide AB.b8
   have Em : Hid (wm < wE.heap.size ∧ b8 < wE.heap.size) := hide ⟨AB.wx.lt, AB.b8.lt⟩
   obtain ⟨iC, DM, Dm, DN, DD⟩ := info_parts rO
   obtain ⟨iS, Dk, Du, DS, DR⟩ := info_parts sZ
   clear BP CR AB At DP AC Cd Bd H9D H0D BF AE CE Aj Bo Bx Cz BU
   go_wp2_with fail
   go_loopw [13, 58] (fun u x wr => ∃ (k n : Nat) (tl : List StM) (ma : Option Addr) (mc : Nat), k ≤ m ∧ n ≤ k ∧ Hid (tl.length = n) ∧ x = .int .i64 k ∧ u = .slice ma n mc ∧ Hid (Gy 32 5 j3 wE.heap.size tl (.slice ma n mc) wr) ∧ Hid (eV Wf 0 l = tl ++ eV Wf k (l.drop k)) ∧ Hid (Below wE.heap.size wE wr)) (fun _ x _ => m - (intOf x).toNat)
   case atStart => exact ⟨0, 0, [], none, 0, by omega, by omega, hide rfl, rfl, rfl, hide Gy.nil, hide (by rw [List.drop_zero]; rfl), hide (Below.refl _ _)⟩
   case round =>
    obtain ⟨k, n, tl, ma, mc, hk, Ec, Bm, rfl, rfl, HG, AO, As⟩ := hrel
    by_cases hlt : k < m
    · obtain ⟨x, hx⟩ := ap (l := l) (i := k) (by rw [HM.out]; exact hlt)
      obtain ⟨e1, e2, e3, e4, e5, AA⟩ := Bt.out k x hx
      obtain ⟨g3, o3, DO, Dr, -, -, -, -, -, -, -, Ab, -, AZ, AW⟩ := HL.out k x hx
      obtain ⟨g, o, Dq, hg, c0, c1, c2, c3, c4⟩ := Bh.out k (by rw [HM.out]; exact hlt)
      cases Dq
      have AL : wr.heap[g1]? = w.heap[g1]? := (As.out.block g1 (by have := Ax.out.size; omega)).trans (Ax.out.block g1 hg)
      have d0 := (World.cell?_of_block (a := ⟨g1, o1 + k * 5, none⟩) AL).trans c0
      have d1 := (World.cell?_of_block (a := ⟨g1, o1 + k * 5 + 1, none⟩) AL).trans c1
      have d2 := (World.cell?_of_block (a := ⟨g1, o1 + k * 5 + 2, none⟩) AL).trans c2
      have d3 := (World.cell?_of_block (a := ⟨g1, o1 + k * 5 + 3, none⟩) AL).trans c3
      have d4 := (World.cell?_of_block (a := ⟨g1, o1 + k * 5 + 4, none⟩) AL).trans c4
      rw [e1] at d0
      rw [e2] at d1
      rw [e3] at d2
      rw [e4] at d3
      rw [e5] at d4
      have Bq : Hid (eV Wf k (l.drop k) = if Wf k then x :: eV Wf (k + 1) (l.drop (k + 1)) else eV Wf (k + 1) (l.drop (k + 1))) := hide (by rw [bh hx]; rfl)
      have hA := ac wr (.cells #[.int .i64 x.tag, .int .i64 x.lit, .int .i64 x.how, .int .i64 x.rule, .slice (s.a k) x.ch.length (s.c k)] 32)
      have hQ : Fx wr.heap.size 32 [.int .i64 x.tag, .int .i64 x.lit, .int .i64 x.how, .int .i64 x.rule, .slice (s.a k) x.ch.length (s.c k)] (wr.alloc (.cells #[.int .i64 x.tag, .int .i64 x.lit, .int .i64 x.how, .int .i64 x.rule, .slice (s.a k) x.ch.length (s.c k)] 32)) := heap_alloc_new wr _
      have Bk : Hid (Src Tryz.prog 2 30 (.slice (s.a k) x.ch.length (s.c k)) x.ch.length (prs x.ch) (wr.alloc (.cells #[.int .i64 x.tag, .int .i64 x.lit, .int .i64 x.how, .int .i64 x.rule, .slice (s.a k) x.ch.length (s.c k)] 32))) := hide (E2 ((AA.keep (w' := wr.alloc (.cells #[.int .i64 x.tag, .int .i64 x.lit, .int .i64 x.how, .int .i64 x.rule, .slice (s.a k) x.ch.length (s.c k)] 32)) fun g hg => (hA.block g (by have := As.out.size; have := Ax.out.size; omega)).trans ((As.out.block g (by have := Ax.out.size; omega)).trans (Ax.out.block g hg))).chs))
      have HA := hide hA
      have HQ := hide hQ
      have Eg := hide (And.intro AZ AW)
      have BW := Dl.out x (List.mem_of_getElem? hx)
      clear AL c0 c1 c2 c3 c4 e1 e2 e3 e4 e5 AA hx hA hQ AZ AW
      obtain ⟨Ai, Ag, Ah, Af, Az⟩ := x
      simp only at d0 d1 d2 d3 d4 Bk HQ HA Ab BW
      have Er : Hid (Exists fun z : StM => z = ⟨Ai, Ag, Ah, Af, Az⟩) := hide ⟨_, rfl⟩
      obtain ⟨cn, Ce⟩ : ∃ c, Az.length = c := ⟨_, rfl⟩
      have CK := hide Ce
      rw [Ce] at d4 Bk HQ HA Ab BW
      clear Ce
      go_upto_region 19 with fail
      clear d0 d1 d2 d3 d4
      generalize wr.alloc (.cells #[.int .i64 Ai, .int .i64 Ag, .int .i64 Ah, .int .i64 Af, .slice (s.a k) cn (s.c k)] 32) = w1 at *
      obtain ⟨Aq, Bg⟩ : ∃ b, wr.heap.size = b := ⟨_, rfl⟩
      have Dc := hide Bg
      rw [Bg] at HQ ⊢
      clear Bg
      have AU := hide (As.out.trans (HA.out.mono As.out.size))
      have c8 := (HB8E.out.keep (AU.out.block _ HB8E.out.lt)).get (i := 0) rfl
      have cw := (By.out.keep (AU.out.block _ By.out.lt)).get (kV hlt)
      cases hwk : Wf k with
      | false =>
       rw [hwk] at cw
       have HE : Hid (eV Wf 0 l = tl ++ eV Wf (k + 1) (l.drop (k + 1))) := hide (by rw [AO.out, Bq.out, hwk]; rfl)
       have DL := hide (HG.out.keep iQ (wd := w1) (fun g h1 h2 => HA.out.block g h2) HA.out.size)
       clear hwk Bq AO HG
       go_wp2_with fail
       go_roundw
       case rel => exact ⟨k + 1, n, tl, ma, mc, by omega, by omega, Bm, by go_num, rfl, DL, HE, AU⟩
       case measure => simp [intOf]; omega
      | true =>
       rw [hwk] at cw
       have HE : Hid (eV Wf 0 l = (tl ++ [⟨Ai, Ag, Ah, Af, Az⟩]) ++ eV Wf (k + 1) (l.drop (k + 1))) := hide (by rw [AO.out, Bq.out, hwk, List.append_assoc]; rfl)
       clear hwk Bq AO
       have k4 := HQ.out.get (i := 4) rfl
       have CC : Hid (w1.ownsRow w1.heap.size 100 2 (.slice none 0 0) 0 []) := hide ⟨rfl, .inl ⟨rfl, rfl⟩⟩
       go_upto_region 20 with fail
       go_upto_region 21 with (at_builtin; go_must (refine i5 _ (Nat.le_refl _) (by rfl) _ _ 30 30 rfl 100 iC _ 2 16 Tryz.underlying30 DM Dm DN DD rfl (.slice none 0 0) 0 [] rfl CC.out (.slice (s.a k) cn (s.c k)) cn (prs Az) rfl Bk.out (by unfold maxLen; omega) (by omega) ?_); intro v4 w4 Ay Cr CZ; rw [Nat.zero_add, List.nil_append] at Ay; obtain ⟨a4, c4, rfl⟩ := bK Ay; have Cu := hide Ay; have Ak : Hid (Below w1.heap.size w1 w4) := hide ((Fr.of_grown (Z := fun _ => False) Cr (fun k e => by simp [Value.ownBlock] at e)).below fun k hk => ⟨hk, fun h => h⟩); have Br := hide (HQ.out.keep (Ak.out.block _ HQ.out.lt)); have z4 := Br.out.frz 4; have y4 := Br.out.get (i := 4) rfl; clear Ay Cr CZ)
       have AY : Hid (Fx Aq 32 [.int .i64 Ai, .int .i64 Ag, .int .i64 Ah, .int .i64 Af, .slice a4 cn c4] (w4.setCell ⟨Aq, 4, none⟩ (.slice a4 cn c4))) := hide (Br.out.set 4 (.slice a4 cn c4))
       have DV := HQ.out.lt
       have BQ := hide (owns_keep (w' := w4.setCell ⟨Aq, 4, none⟩ (.slice a4 cn c4)) Cu.out fun g hg => other_set (by have := (Cu.out.lt g hg).1; omega))
       have s1 := HA.out.size
       have s4 := Ak.out.size
       have s5 := As.out.size
       have Ep := Dc.out
       have DY : w4.heap.size ≤ (w4.setCell ⟨Aq, 4, none⟩ (.slice a4 cn c4)).heap.size := by simp
       have CV : Hid (∀ g, wE.heap.size ≤ g → g < wr.heap.size → (w4.setCell ⟨Aq, 4, none⟩ (.slice a4 cn c4)).heap[g]? = wr.heap[g]?) := hide fun g h1 h2 => by
        rw [other_set (by omega), Ak.out.block g (by omega), HA.out.block g h2]
       have Ar : Hid (Below wE.heap.size wE (w4.setCell ⟨Aq, 4, none⟩ (.slice a4 cn c4))) := hide ((AU.out.trans (Ak.out.mono AU.out.size)).setCell (p := ⟨Aq, 4, none⟩) (by show wE.heap.size ≤ Aq; omega) _)
       clear k4 z4 y4 c8 cw Br HQ CC Bk
       generalize w4.setCell ⟨Aq, 4, none⟩ (.slice a4 cn c4) = w5 at *
       have f0 := AY.out.get (i := 0) rfl
       have f1 := AY.out.get (i := 1) rfl
       have f2 := AY.out.get (i := 2) rfl
       have f3 := AY.out.get (i := 3) rfl
       have f4 := AY.out.get (i := 4) rfl
       obtain ⟨Z, xs, Al, hz, Bf⟩ := HG.out
       rw [Bm.out] at Al
       have Ck := hide Al
       have HZ := hide hz
       have Dd := hide Bf
       have Df := hide (owns_keep Al fun g hg => ((ac w5 (.cells #[.int .i64 Ai, .int .i64 Ag, .int .i64 Ah, .int .i64 Af, .slice a4 cn c4] 32)).block g (by have := (Al.lt g hg).2; omega)).trans (CV.out g (Al.lt g hg).1 (Al.lt g hg).2))
       have Dw : Hid (∀ g, Value.ownBlock (.slice ma n mc) = some g → wE.heap.size ≤ g) := hide fun g e => (Al.lt g e).1
       clear Al hz Bf HG
       go_wp2_with (at_builtin; go_must (refine bN _ rfl _ _ 27 rfl wE.heap.size 32 iS _ 5 56 Tryz.underlying27 Dk Du DS DR rfl (by decide) (.slice ma n mc) n xs rfl Df.out ⟨w5.heap.size, 0, none⟩ 1 [.int .i64 Ai, .int .i64 Ag, .int .i64 Ah, .int .i64 Af, .slice a4 cn c4] rfl rfl (m5 (cs := [.int .i64 Ai, .int .i64 Ag, .int .i64 Ah, .int .i64 Af, .slice a4 cn c4]) rfl) (by intro u hu; simp at hu; rcases hu with rfl | rfl | rfl | rfl | rfl <;> rfl) (by unfold maxLen; omega) (by omega) (by simp; omega) ?_); intro g4 BO w6 Bv CT; have Ds := hide Bv; have CG := hide CT; clear Bv CT)
       have DU : Hid (Fr (fun k => wE.heap.size ≤ k) w5 w6) := hide (dX rfl (by rcases CG.out with h | ⟨h1, h2⟩; exact .inl h; exact .inr ⟨by simpa using h1, h2⟩) Dw.out)
       have Dx : Hid (Gy 32 5 j3 wE.heap.size (tl ++ [⟨Ai, Ag, Ah, Af, Az⟩]) (.slice (some ⟨g4, 0, none⟩) (n + 1) BO) w6) := hide (Gy.grow (Zn := fun g => Value.ownBlock (.slice a4 cn c4) = some g) iQ Bm.out Ck.out HZ.out Dd.out CV.out (by omega) (by omega) (fun g hg => ⟨by have := (BQ.out.lt g hg).1; omega, (BQ.out.lt g hg).2⟩) ⟨.slice a4 cn c4, rfl, tP (by rw [CK.out]; exact BQ.out) (fun g e => e) (by rw [CK.out]; exact Ab)⟩ rfl Ds.out (by rcases CG.out with h | ⟨h1, h2⟩; exact .inl h; exact .inr ⟨by simpa using h1, h2⟩))
       have An : Hid (Below wE.heap.size wE w6) := hide (Ar.out.trans (DU.out.below fun k hk => ⟨by have := Ar.out.size; omega, by omega⟩))
       go_roundw
       case rel => exact ⟨k + 1, n + 1, tl ++ [⟨Ai, Ag, Ah, Af, Az⟩], some ⟨g4, 0, none⟩, BO, by omega, by omega, hide (by rw [List.length_append, Bm.out]; rfl), by go_num, rfl, Dx, HE, An⟩
       case measure => simp [intOf]; omega
    · have HE : Hid (ke T l = tl) := hide (by rw [DQ.out, AO.out, List.drop_eq_nil_of_le (by rw [HM.out]; omega)]; unfold eV; rw [List.append_nil])
      have CY := hide ((As.out.block D (by have := AF.out; omega)).trans Dj.out)
      have HD2E2 := hide ((As.out.block D2 (by have := AF.out; omega)).trans HD2E.out)
      clear AO
      go_wp2_with fail
      refine ⟨by simp, .inl ⟨_, _, rfl, run_takeDeferred HD2E2.out, ?_⟩⟩
      have De : Hid ((wr.putObj D2 (.deferred none)).heap[D]? = some (.deferred (some []))) := hide ((World.putObj_heap_other (by have := AF.out; omega)).trans CY.out)
      refine ⟨by simp, .inl ⟨_, _, rfl, run_takeDeferred De.out, ?_⟩⟩
      refine ⟨.slice ma n mc, by simp [results, go_sem], .slice ma n mc, rfl, ?_, ?_⟩
      · rw [HE.out]
        have hk : ∀ g, wE.heap.size ≤ g → ((wr.putObj D2 (.deferred none)).putObj D (.deferred none)).heap[g]? = wr.heap[g]? := fun g hg => by
         rw [World.putObj_heap_other (by have := AF.out; omega), World.putObj_heap_other (by have := AF.out; omega)]
        exact (HG.out.keep iQ (fun g h1 _ => hk g h1) (by simp)).down Ax.out.size
      · have h1 := Ax.out.trans (As.out.mono Ax.out.size)
        exact h1.trans ⟨rfl, rfl, rfl, by simp, fun i hi => by rw [World.putObj_heap_other (by have := AF.out; omega), World.putObj_heap_other (by have := AF.out; omega)]⟩
end
end Go.Proofs.YtmlhcncagdfjfaaGreat.De
