import Derived.Test.YtmlhcncagdfjfaaGreatLnA
import Derived.Test.YtmlhcncagdfjfaaGreatDrM
set_option maxRecDepth 100000
set_option maxHeartbeats 25600000
namespace Go.Proofs.YtmlhcncagdfjfaaGreat.De
open Go.RowKit Fa Go.Shelf Rg
open Go.ChangeMaps (setBlock heap_setBlock_same heap_setBlock_other)
attribute [local go_sem] Oper.semAt_some
def qj (b7 mb q j k : Nat) (i : Nat) (v : Value) (_ : World) (_ _ : Nat) : Prop := match i with
 | 0 => v = .map (some mb)
 | 1 => v = .pointer (some ⟨b7, 1, none⟩)
 | 2 => v = .int .i64 (q : Int)
 | 3 => v = .pointer (some ⟨b7, 0, none⟩)
 | 4 => v = .int .i64 (j : Int)
 | 5 => v = pk q j
 | 6 => v = .int .i64 (k : Int)
 | _ => True
theorem bT {b7 mb q j k : Nat} : ∀ i v W W' lo hi, qj b7 mb q j k i v W lo hi → hi ≤ W.heap.size → Below W.heap.size W W' → qj b7 mb q j k i v W' lo hi := fun _ _ _ _ _ _ h _ _ => h
def uh (mb : Nat) (V : Nat → Nat → Int) (c : Nat) (W0 : World) (_ : Nat → Value) (W : World) : Prop := Fr (fun g => g = mb) W0 W ∧ ∃ es clock, W.heap[mb]? = some (.map es clock) ∧ Mi V c es clock
theorem sU {w : World} {b clock : Nat} {es : Array MapEntry} {o : Obj} (hb : w.heap[b]? = some (.map es clock)) : Fr (fun g => g = b) w (setBlock w b o) := by
 refine ⟨rfl, rfl, rfl, by rw [d8]; exact Nat.le_refl _, fun i hi hz => heap_setBlock_other hb _ (fun e => hz e)⟩
section
variable {S : Nat → Prop} {N0 : Nat} {K : de} {T : Th} {w : World} {l : List StM} {la : Option Addr} {lc : Nat}
theorem xP (hT : Wt T K.n) (hX : Xr S N0 K T w) (hl : Sts w.heap.size w l la) (hl0 : 0 < l.length) (hll : l.length ≤ 65536) (hls : ∀ s ∈ l, ∃ q j : Nat, s.lit = (q : Int) ∧ s.tag = (j : Int) ∧ q < K.n ∧ 1 ≤ j ∧ j ≤ 4) (hlc : ∀ s ∈ l, s.ch.length ≤ 1048576) :
    Calls Tryz.prog 57 #[aa K.q, .slice la l.length lc] w fun e w' => ∃ v, e = .returned v ∧ Gy 32 5 j4 w.heap.size (jV T l) v w' ∧ Below w.heap.size w w' := by
 have Ea : Tryz.prog.follows .mixedOrders = true := by kernel_rfl
 have Eh := @run_makeMap Tryz.prog
 obtain ⟨iB, DA, Dn, DJ, Dw⟩ := info_parts kO
 obtain ⟨s, CQ, CG⟩ := F0 hl
 have Bt := hide CQ
 have Bo := hide CG
 have HL := hide hl
 have HT := hide hT
 have HX := hide hX
 have BS := hide hls
 have DO := hide hlc
 obtain ⟨m, hm⟩ : ∃ m, l.length = m := ⟨_, rfl⟩
 have HM := hide hm
 have DU := hT.n4
 rw [hm] at hl0 hll ⊢
 have Ef : ∀ W, (Instr.makeSlice 106 (.int .i64 (m : Int)) (.int .i64 (m : Int))).run Tryz.prog W = .ok (aC W.heap.size m) (W.alloc (.cells (Array.replicate m (.bool false)) 4)) := fun W => aQ (P := Tryz.prog) Tryz.underlying106 DA Dn DJ rfl m (by rw [Dw]; omega) (by unfold maxLen; omega) W
 clear hT hX hl hls CQ CG hm hlc
 have hB : Below w.heap.size w (((w.alloc (.cells #[aa K.q] 81)).alloc (.map #[] 0)).alloc (.cells #[.map (some (w.heap.size + 1))] 148)) := ((ae w _).trans ((ae _ _).mono (by simp))).trans ((ae _ _).mono (by simp; omega))
 have h0 : Fx w.heap.size 81 [aa K.q] (((w.alloc (.cells #[aa K.q] 81)).alloc (.map #[] 0)).alloc (.cells #[.map (some (w.heap.size + 1))] 148)) := by
  have e1 : (w.alloc (.cells #[aa K.q] 81)).heap[w.heap.size]? = some (.cells #[aa K.q] 81 (0, 0)) := heap_alloc_new w _
  exact (Below.heap_alloc _ _ _ (by simp; omega)).trans ((Below.heap_alloc _ _ _ (by simp)).trans e1)
 have h1 : (((w.alloc (.cells #[aa K.q] 81)).alloc (.map #[] 0)).alloc (.cells #[.map (some (w.heap.size + 1))] 148)).heap[w.heap.size + 1]? = some (.map #[] 0) := by
  have e1 := World.alloc_heap_new (w.alloc (.cells #[aa K.q] 81)) (.map #[] 0)
  rw [World.size_alloc] at e1
  exact (Below.heap_alloc _ _ _ (by simp)).trans e1
 have h5 : Fx (w.heap.size + 1 + 1) 148 [.map (some (w.heap.size + 1))] (((w.alloc (.cells #[aa K.q] 81)).alloc (.map #[] 0)).alloc (.cells #[.map (some (w.heap.size + 1))] 148)) := by
  have e1 := heap_alloc_new ((w.alloc (.cells #[aa K.q] 81)).alloc (.map #[] 0)) (.cells #[.map (some (w.heap.size + 1))] 148)
  simpa [Fx] using e1
 have HB := hide hB
 have H0 := hide h0
 have Bu := hide h1
 have H5 := hide h5
 clear hB h0 h1 h5
 refine callsIn_wide.1 (callsIn_of_wp_marks (n := 3) Tryz.func57 rfl trivial (wpIn_wide.2 ?_))
 simp only [Tryz.ntmps57, List.size_toArray, List.length_cons, List.length_nil, Nat.reduceAdd, Nat.reduceSub, Array.replicate_succ, Array.replicate_zero, List.push_toArray, List.append_toArray, List.nil_append, List.cons_append]
 go_upto_region 2 with fail
 generalize (((w.alloc (.cells #[aa K.q] 81)).alloc (.map #[] 0)).alloc (.cells #[.map (some (w.heap.size + 1))] 148)) = w2 at *
 obtain ⟨b0, Cb⟩ : ∃ b, w.heap.size = b := ⟨_, rfl⟩
 obtain ⟨mb, BF⟩ : ∃ b, w.heap.size + 1 = b := ⟨_, rfl⟩
 obtain ⟨b5, Cj⟩ : ∃ b, w.heap.size + 1 + 1 = b := ⟨_, rfl⟩
 rw [Cj] at H5 ⊢
 rw [BF] at H5 Bu ⊢
 have Bh := hide (And.intro Cb (And.intro BF Cj))
 clear BF Cj
 rw [Cb] at H0 ⊢
 clear Cb
 have AU := hide (mG w2 la m lc)
 go_wp2_with (go_at_call 96; refine AU.out.mono ?_; rintro _ wB ⟨bb, rfl, AW, AY, AR⟩; have BO := hide AW; have AZ := hide AY; have CM := hide AR; clear AW AY AR AU)
 have Ax : Hid (w.heap.size = b0 ∧ w.heap.size + 1 = mb ∧ w.heap.size + 1 + 1 = b5 ∧ b5 < w2.heap.size ∧ w2.heap.size ≤ bb ∧ bb < wB.heap.size) := hide ⟨Bh.out.1, Bh.out.2.1, Bh.out.2.2, H5.out.lt, CM.out, BO.out.lt⟩
 have Bs := hide (HB.out.trans (AZ.out.mono HB.out.size))
 have Ci := hide ((AZ.out.block mb (aL Bu.out)).trans Bu.out)
 have H5B := hide (H5.out.keep (AZ.out.block _ H5.out.lt))
 have H0B := hide (H0.out.keep (AZ.out.block _ H0.out.lt))
 have By := hide (fun X : World => lR)
 clear HB AZ H0 Bu H5 Bh CM By
 refine (wpIn_wide (n := 3)).1 ?_
 refine m9 6 7 (bb := bb) (len := m) (lc := lc) (la := la) (s := s) (p1 := 19) (p2 := 20) 3 (by omega) (by omega) rfl (enters_go Tryz.func133 (by kernel_rfl) (by kernel_rfl))
  (fun k W => k ≤ m ∧ uh mb (kG l k) (m - k) wB (fun _ => undef) W) ?hst ?hE ?hS ?h0 ?assign ?body ?done
 case hst =>
  rintro k W W' ⟨h1, h2, es, clock, h3, h4⟩ hb
  exact ⟨h1, wk h2 hb, es, clock, (hb.block mb (aL Ci.out)).trans h3, h4⟩
 case hE =>
  rintro k W ⟨h1, h2, -⟩
  have z := Ax.out
  refine ⟨(BO.out.keep (h2.block _ BO.out.lt (by omega))).get (i := 0) rfl, fun i hi => ?_⟩
  obtain ⟨g, o, e, hg, c0, c1, c2, c3, c4⟩ := Bo.out i (by rw [HM.out]; exact hi)
  have hk : W.heap[g]? = w.heap[g]? := (h2.block g (by omega) (by omega)).trans (Bs.out.block g hg)
  exact ⟨g, o, e, (World.cell?_of_block hk).trans c0, (World.cell?_of_block hk).trans c1, (World.cell?_of_block hk).trans c2, (World.cell?_of_block hk).trans c3, (World.cell?_of_block hk).trans c4⟩
 case hS => exact fun k W h => h.2.1.size
 case h0 => exact ⟨Nat.le_refl _, Fr.refl _ _, #[], 0, Ci.out, by have e : kG l m = fun _ _ => 0 := (by rw [← HM.out]; exact A8); rw [e, Nat.sub_self]; exact EY⟩
 case assign =>
  intro l' k W K hK
  simp only [List.setIfInBounds_toArray, List.set_cons_succ, List.set_cons_zero] at hK ⊢
  gi_wp2
  exact hK
 case body =>
  intro l' k b7 W hI hk CE Db
  obtain ⟨x, hx⟩ := an (l := l) (i := k) (by rw [HM.out]; exact hk)
  obtain ⟨q, j, hq, hj, Cz, AV, CI⟩ := BS.out x (List.mem_of_getElem? hx)
  obtain ⟨e1, e2, -, -, -, -⟩ := Bt.out k x hx
  have Dg : s.q k = (q : Int) := e2.trans hq
  have Dz : s.t k = (j : Int) := e1.trans hj
  have DD : Hid (kG l k = nJ (kG l (k + 1)) q j (k : Int)) := hide (xb hx hq hj)
  obtain ⟨-, Am, es, clock, Cx, CF⟩ := hI
  have Bn := hide Am
  have Dy := hide CF
  have CH := hide Cx
  have Cu := hide CE
  have Cq := H5B.out.keep (Am.block _ H5B.out.lt (by have := Ax.out; omega))
  have H5W := hide Cq
  have HK := hide (And.intro hk (And.intro Db (And.intro Cz CI)))
  clear hx hq hj e1 e2 Am CF Cx CE Cq Cz AV CI
  obtain ⟨V, hV⟩ : ∃ V, kG l k = V := ⟨_, rfl⟩
  obtain ⟨c, hc⟩ : ∃ c, m - k = c := ⟨_, rfl⟩
  have HV := hide hV
  have HC := hide hc
  clear hV hc
  have HDr := hide ((Below.refl W.heap.size W).drew)
  obtain ⟨W0, CN⟩ : ∃ W0, W.drew = W0 := ⟨_, rfl⟩
  rw [CN] at HDr
  have Ap : Hid (gV [some 21, some 22, some 23, some 24, some 25, some 26, some 27, none] [(5, aa b5), (7, aa b7), (6, .int .i64 (k : Int))] = true) := hide rfl
  have BB : Hid (∀ X, Below W0.heap.size W0 X → X.cell? ⟨b7, 0, none⟩ = some (.int .i64 (j : Int)) ∧ X.cell? ⟨b7, 1, none⟩ = some (.int .i64 (q : Int)) ∧ X.cell? ⟨b5, 0, none⟩ = some (.map (some mb))) := hide fun X hX => by
   have hb := HDr.out.trans (hX.mono HDr.out.size)
   have h7 := Cu.out.keep (hb.block _ Cu.out.lt)
   exact ⟨by rw [← Dz]; exact h7.get (i := 0) rfl, by rw [← Dg]; exact h7.get (i := 1) rfl, (H5W.out.keep (hb.block _ H5W.out.lt)).get (i := 0) rfl⟩
  have DT : Hid (∀ X, Below W0.heap.size W0 X → ∃ An Ad, (Instr.mapUpdate 148 (.map (some mb)) (pk q j) (.int .i64 (k : Int))).run Tryz.prog X = .ok () (setBlock X mb (.map An Ad)) ∧ uh mb V c W0 (fun _ => undef) (setBlock X mb (.map An Ad))) := hide fun X hX => by
   have hb := HDr.out.trans (hX.mono HDr.out.size)
   have BV : X.heap[mb]? = some (.map es clock) := (hb.block _ (aL CH.out)).trans CH.out
   obtain ⟨An, Ad, hr, hM⟩ := Fh BV Dy.out (s := q) (q := j) (by have := HK.out; omega) (by have := HK.out; omega) (by omega) (k : Int)
   refine ⟨An, Ad, hr, (Fr.of_below hX).trans (sU BV), An, Ad, heap_setBlock_same BV _, ?_⟩
   rw [← HV.out, DD.out, ← HC.out, show m - k = m - (k + 1) + 1 by omega]
   exact hM
  have By : Hid (∀ X, Calls Tryz.prog 42 #[.int .i64 (q : Int), .int .i64 (j : Int)] X fun e w' => e = .returned (.agg #[.int .i64 (q : Int), .int .i64 (j : Int)]) ∧ Below X.heap.size X w') := hide fun X => lR _ _ X
  have Ds : Hid (∀ args w', (callFunc 42 args).run Tryz.prog w' = .ok (.enter 42 args) w') := hide (enters_go Tryz.func42 (by kernel_rfl) (by kernel_rfl))
  simp only [Nat.reduceSub]
  refine wpIn_block ?_
  refine pV (Jl 7 [some 21, some 22, some 23, some 24, some 25, some 26, some 27, none] [(5, aa b5), (7, aa b7), (6, .int .i64 (k : Int))] (qj b7 mb q j k) (uh mb V c W0) W0) ?hq (by kernel_rfl) (by kernel_rfl) (by kernel_rfl) ?_ (cV ⟨?_, ?_, ?_, ?_, ?_, ?_, ?_, ?_, trivial⟩) ?_
  case hq => rintro ⟨a, w, h⟩; exact h
  · refine ⟨fun _ => ?_, fun e => by cases e⟩
    show Jg _ _ _ W0 _ _ W.drew
    rw [CN]
    exact Jg.start.2 fun p hp => by simp at hp; rcases hp with rfl | rfl | rfl <;> rfl
  · intro ρ X L hc hf hL hd Ab Ac
    have Aa : L 7 = false := al (by kernel_rfl) Ab (k := 0) (by simp) hL
    have hJ := Ac.1 Aa
    obtain ⟨c0, c1, c5⟩ := BB.out X hJ.low
    have k5 : ρ (.tmp 5) = aa b5 := hJ.base (5, aa b5) (by simp)
    refine ac (v := .map (some mb)) (w' := X) ?_ ⟨fun _ => hJ.put Ap.out bT (i := 0) (d := 21) rfl (Below.refl _ _) (rfl), fun e => by rw [am (by decide), Aa] at e; cases e⟩
    clear hd Ab hJ Ac hL Aa
    go_simp
  · intro ρ X L hc hf hL hd Ab Ac
    have Aa : L 7 = false := al (by kernel_rfl) Ab (k := 1) (by simp) hL
    have hJ := Ac.1 Aa
    have k7 : ρ (.tmp 7) = aa b7 := hJ.base (7, aa b7) (by simp)
    refine ac (v := .pointer (some ⟨b7, 1, none⟩)) (w' := X) ?_ ⟨fun _ => hJ.put Ap.out bT (i := 1) (d := 22) rfl (Below.refl _ _) (rfl), fun e => by rw [am (by decide), Aa] at e; cases e⟩
    clear hd Ab hJ Ac hL Aa
    go_simp
  · intro ρ X L hc hf hL hd Ab Ac
    have Aa : L 7 = false := al (by kernel_rfl) Ab (k := 2) (by simp) hL
    have hJ := Ac.1 Aa
    obtain ⟨c0, c1, c5⟩ := BB.out X hJ.low
    have Ek : ρ (.tmp 22) = .pointer (some ⟨b7, 1, none⟩) := by
     obtain ⟨_, _, _, e1⟩ := hJ.get (i := 1) (d := 22) rfl (hd ⟨1, .data⟩ (by simp) rfl)
     exact e1
    refine ac (v := .int .i64 (q : Int)) (w' := X) ?_ ⟨fun _ => hJ.put Ap.out bT (i := 2) (d := 23) rfl (Below.refl _ _) (rfl), fun e => by rw [am (by decide), Aa] at e; cases e⟩
    clear hd Ab hJ Ac hL Aa
    go_simp
  · intro ρ X L hc hf hL hd Ab Ac
    have Aa : L 7 = false := al (by kernel_rfl) Ab (k := 3) (by simp) hL
    have hJ := Ac.1 Aa
    have k7 : ρ (.tmp 7) = aa b7 := hJ.base (7, aa b7) (by simp)
    refine ac (v := .pointer (some ⟨b7, 0, none⟩)) (w' := X) ?_ ⟨fun _ => hJ.put Ap.out bT (i := 3) (d := 24) rfl (Below.refl _ _) (rfl), fun e => by rw [am (by decide), Aa] at e; cases e⟩
    clear hd Ab hJ Ac hL Aa
    go_simp
  · intro ρ X L hc hf hL hd Ab Ac
    have Aa : L 7 = false := al (by kernel_rfl) Ab (k := 4) (by simp) hL
    have hJ := Ac.1 Aa
    obtain ⟨c0, c1, c5⟩ := BB.out X hJ.low
    have En : ρ (.tmp 24) = .pointer (some ⟨b7, 0, none⟩) := by
     obtain ⟨_, _, _, e1⟩ := hJ.get (i := 3) (d := 24) rfl (hd ⟨3, .data⟩ (by simp) rfl)
     exact e1
    refine ac (v := .int .i64 (j : Int)) (w' := X) ?_ ⟨fun _ => hJ.put Ap.out bT (i := 4) (d := 25) rfl (Below.refl _ _) (rfl), fun e => by rw [am (by decide), Aa] at e; cases e⟩
    clear hd Ab hJ Ac hL Aa
    go_simp
  · intro ρ X L hc hf hL hd Ab Ac
    have Aa : L 7 = false := al (by kernel_rfl) Ab (k := 5) (by simp) hL
    have hJ := Ac.1 Aa
    have Eg : ρ (.tmp 23) = .int .i64 (q : Int) := by
     obtain ⟨_, _, _, e1⟩ := hJ.get (i := 2) (d := 23) rfl (hd ⟨2, .data⟩ (by simp) rfl)
     exact e1
    have Ej : ρ (.tmp 25) = .int .i64 (j : Int) := by
     obtain ⟨_, _, _, e1⟩ := hJ.get (i := 4) (d := 25) rfl (hd ⟨4, .data⟩ (by simp) rfl)
     exact e1
    have hC := By.out X
    have he := Ds.out #[.int .i64 (q : Int), .int .i64 (j : Int)] X
    refine eG (f := 42) (args := #[.int .i64 (q : Int), .int .i64 (j : Int)]) (w' := X) ?_ hC ?_
    · clear hd Ab hJ Ac hL Aa hC
      go_simp
    · rintro _ Y ⟨rfl, hb⟩
      exact ⟨_, rfl, fun _ => hJ.put Ap.out bT (i := 5) (d := 26) rfl hb (rfl), fun e => by rw [am (by decide), Aa] at e; cases e⟩
  · intro ρ X L hc hf hL hd Ab Ac
    have Aa : L 7 = false := al (by kernel_rfl) Ab (k := 6) (by simp) hL
    have hJ := Ac.1 Aa
    have k6 : ρ (.tmp 6) = .int .i64 (k : Int) := hJ.base (6, .int .i64 (k : Int)) (by simp)
    refine ac (v := .int .i64 (k : Int)) (w' := X) ?_ ⟨fun _ => hJ.put Ap.out bT (i := 6) (d := 27) rfl (Below.refl _ _) (rfl), fun e => by rw [am (by decide), Aa] at e; cases e⟩
    clear hd Ab hJ Ac hL Aa
    go_simp
  · intro ρ X L hc hf hL hd Ab Ac
    have hJ := Ac.1 hL
    have Er : ρ (.tmp 21) = .map (some mb) := by
     obtain ⟨_, _, _, e1⟩ := hJ.get (i := 0) (d := 21) rfl (hd ⟨0, .data⟩ (by simp) rfl)
     exact e1
    have El : ρ (.tmp 26) = pk q j := by
     obtain ⟨_, _, _, e1⟩ := hJ.get (i := 5) (d := 26) rfl (hd ⟨5, .data⟩ (by simp) rfl)
     exact e1
    have Eo : ρ (.tmp 27) = .int .i64 (k : Int) := by
     obtain ⟨_, _, _, e1⟩ := hJ.get (i := 6) (d := 27) rfl (hd ⟨6, .data⟩ (by simp) rfl)
     exact e1
    obtain ⟨An, Ad, DX, hF⟩ := DT.out X hJ.low
    have BE : Hid (uh mb V c W0 (gk (fun s => ρ (.tmp s)) none undef) (setBlock X mb (.map An Ad))) := hide hF
    refine cK (w' := setBlock X mb (.map An Ad)) ?_ ⟨fun e => (by rw [aP] at e; cases e), fun _ => BE.out⟩
    clear hd Ab hJ Ac hL BE hF
    go_simp
  · rintro ⟨Em, df⟩ w' Ee Ep ⟨L, hL, hJ⟩ Bd
    obtain ⟨hf, An, Ad, DG, DK⟩ := hJ.2 (hL 7 (by decide))
    have BY : Fr (fun g => g = mb) W w' := (Fr.of_below HDr.out).trans hf
    refine ⟨⟨BY.size, fun i o hi h1 h2 => (BY.block i (aL h1) (by have := Ax.out; omega)).trans h1⟩, by have := HK.out; omega, Bn.out.trans BY, An, Ad, DG, ?_⟩
    rw [HV.out, HC.out]
    exact DK
 case done =>
  intro D wC hD hI Au
  obtain ⟨-, AT, es, clock, CR, Cr⟩ := hI
  have Cm := hide AT
  have BU := hide CR
  have CL := hide Cr
  have Bk := hide Au
  have CS := hide hD
  have Aj : Hid (Below w.heap.size w wC) := hide (Bs.out.trans (AT.below fun k hk => ⟨by have := Bs.out.size; omega, fun e => by have := Ax.out; omega⟩))
  have Cd := hide (H5B.out.keep (AT.block _ H5B.out.lt (by have := Ax.out; omega)))
  have Ca := hide (H0B.out.keep (AT.block _ H0B.out.lt (by have := Ax.out; omega)))
  have DC := hide (HX.out.go Aj.out)
  clear AT CR Cr Au hD Bs Ci H5B H0B
  have CA : Below wC.heap.size wC ((wC.alloc (.cells (Array.replicate m (.bool false)) 4)).alloc (.cells #[aC wC.heap.size m] 106)) := (ae wC _).trans ((ae _ _).mono (by simp))
  have Cv : Fx wC.heap.size 4 (jC m fun _ => false) ((wC.alloc (.cells (Array.replicate m (.bool false)) 4)).alloc (.cells #[aC wC.heap.size m] 106)) := by
   have e1 : Fx wC.heap.size 4 (jC m fun _ => false) (wC.alloc (.cells (Array.replicate m (.bool false)) 4)) := by unfold Fx jC; rw [heap_alloc_new]; simp [List.map_const']
   exact e1.keep ((ae _ _).block _ e1.lt)
  have Cw : Fx (wC.heap.size + 1) 106 [aC wC.heap.size m] ((wC.alloc (.cells (Array.replicate m (.bool false)) 4)).alloc (.cells #[aC wC.heap.size m] 106)) := by
   have e1 := heap_alloc_new (wC.alloc (.cells (Array.replicate m (.bool false)) 4)) (.cells #[aC wC.heap.size m] 106)
   simpa [Fx] using e1
  have Ak := hide CA
  have Bb := hide Cv
  have AI := hide Cw
  clear CA Cv Cw
  go_upto_region 7 with fail
  generalize ((wC.alloc (.cells (Array.replicate m (.bool false)) 4)).alloc (.cells #[aC wC.heap.size m] 106)) = w4 at *
  obtain ⟨wm, Ch⟩ : ∃ b, wC.heap.size = b := ⟨_, rfl⟩
  obtain ⟨b8, Cg⟩ : ∃ b, wC.heap.size + 1 = b := ⟨_, rfl⟩
  rw [Cg] at AI ⊢
  rw [Ch] at Bb AI ⊢
  have BH := hide (And.intro Ch Cg)
  clear Cg Ch
  have Cp := ae w4 (.cells #[.func (.func 97) #[] #[aa b8, aa b5]] 87)
  have CD : Fx w4.heap.size 87 [.func (.func 97) #[] #[aa b8, aa b5]] (w4.alloc (.cells #[.func (.func 97) #[] #[aa b8, aa b5]] 87)) := heap_alloc_new w4 _
  have Aq := hide Cp
  have AF := hide CD
  clear Cp CD
  go_upto_region 8 with fail
  generalize w4.alloc (.cells #[.func (.func 97) #[] #[aa b8, aa b5]] 87) = w5 at *
  obtain ⟨b9, BZ⟩ : ∃ b, w4.heap.size = b := ⟨_, rfl⟩
  have CT := hide BZ
  rw [BZ] at AF ⊢
  clear BZ
  have AO : Hid (Below wC.heap.size wC w5) := hide (Ak.out.trans (Aq.out.mono Ak.out.size))
  have Ae : Hid (b9 < w5.heap.size ∧ b8 < w4.heap.size ∧ wm < w4.heap.size ∧ b9 = w4.heap.size ∧ wm = wC.heap.size ∧ b8 = wC.heap.size + 1) := hide ⟨AF.out.lt, AI.out.lt, Bb.out.lt, CT.out.symm, BH.out.1.symm, BH.out.2.symm⟩
  obtain ⟨n1, CO⟩ : ∃ n1, m = n1 + 1 := ⟨m - 1, by omega⟩
  have BM : n1 < m := by omega
  have e1 : IntKind.i64.wrap ((m : Int) - 1) = (n1 : Int) := by rw [IntKind.wrap_i64]; omega
  have DN := hide CO
  obtain ⟨x1, AM⟩ := an (l := l) (i := n1) (by rw [HM.out]; exact BM)
  obtain ⟨q1, j1, BC, AV, BJ, BL, BG⟩ := BS.out x1 (List.mem_of_getElem? AM)
  obtain ⟨z1, z2, -, -, -, -⟩ := Bt.out n1 x1 AM
  have DE := hide AM
  have AN : Hid (s.q n1 = (q1 : Int) ∧ s.t n1 = (j1 : Int) ∧ x1.lit = (q1 : Int) ∧ x1.tag = (j1 : Int) ∧ q1 < K.n ∧ 1 ≤ j1 ∧ j1 ≤ 4) := hide ⟨z2.trans BC, z1.trans AV, BC, AV, BJ, BL, BG⟩
  clear CO AM BC AV BJ BL BG z1 z2
  obtain ⟨g1, o1, rfl, Dk, c0, c1, c2, c3, c4⟩ := Bo.out n1 (by rw [HM.out]; exact BM)
  have AL : w5.heap[g1]? = w.heap[g1]? := (AO.out.block g1 (by have := Aj.out.size; omega)).trans (Aj.out.block g1 Dk)
  have d0 := (World.cell?_of_block (a := ⟨g1, o1 + n1 * 5, none⟩) AL).trans c0
  have d1 := (World.cell?_of_block (a := ⟨g1, o1 + n1 * 5 + 1, none⟩) AL).trans c1
  have d2 := (World.cell?_of_block (a := ⟨g1, o1 + n1 * 5 + 2, none⟩) AL).trans c2
  have d3 := (World.cell?_of_block (a := ⟨g1, o1 + n1 * 5 + 3, none⟩) AL).trans c3
  have d4 := (World.cell?_of_block (a := ⟨g1, o1 + n1 * 5 + 4, none⟩) AL).trans c4
  clear AL c0 c1 c2 c3 c4
  have BQ : Fx w5.heap.size 32 (s.l n1) (w5.alloc (.cells (s.l n1).toArray 32)) := heap_alloc_new w5 _
  have AP := hide BQ
  have DL := hide (AO.out.trans ((ae w5 (.cells (s.l n1).toArray 32)).mono AO.out.size))
  clear BQ
  go_upto_region 9 with fail
  change Code.wp _ _ _ _ (w5.alloc (.cells (s.l n1).toArray 32))
  clear d0 d1 d2 d3 d4
  have Ao := hide (ae w5 (.cells (s.l n1).toArray 32))
  generalize w5.alloc (.cells (s.l n1).toArray 32) = w6 at *
  obtain ⟨Cs, Bf⟩ : ∃ b, w5.heap.size = b := ⟨_, rfl⟩
  have Dc := hide Bf
  rw [Bf] at AP ⊢
  clear Bf
  have Cf : Hid (LI b5 b8 wm mb l m (fun _ => false) w6) := hide (by
   have h1 := Aq.out.trans (Ao.out.mono Aq.out.size)
   have h2 := Ak.out.trans (h1.mono Ak.out.size)
   exact ⟨Bb.out.keep (h1.block _ Bb.out.lt), AI.out.keep (h1.block _ AI.out.lt), Cd.out.keep (h2.block _ Cd.out.lt), es, clock, _, (h2.block _ (aL BU.out)).trans BU.out, CL.out⟩)
  have WN := hide (fun W0 : Nat → Bool => xG (n := K.n) (b5 := b5) (b8 := b8) (wm := wm) (mb := mb) (m := m) (l := l) (W0 := W0) DU (by omega) HM.out (by omega))
  have Cn : Hid (Calls Tryz.prog 97 #[.int .i64 (q1 : Int), .int .i64 (j1 : Int), aa b8, aa b5] w6 fun e w' => e = .returned (.tuple #[]) ∧ ∃ Z2, Pz (xQ b5 b8 wm mb l m fun _ => false) (fun k => k = wm) w6 Z2 [((q1 : Int), (j1 : Int))] w') := hide (by
   obtain ⟨k, DZ, e, -, hc⟩ := (WN.out fun _ => false).call
   cases e
   exact hc (fun k => k = wm) [] w6 _ _ ⟨rfl, Cf.out⟩ ⟨by omega, by have := AN.out; omega, by have := AN.out; unfold aq; omega⟩)
  have f0 : w6.cell? ⟨Cs, 0, none⟩ = some (.int .i64 (j1 : Int)) := by rw [← AN.out.2.1]; exact AP.out.get (i := 0) rfl
  have f1 : w6.cell? ⟨Cs, 1, none⟩ = some (.int .i64 (q1 : Int)) := by rw [← AN.out.1]; exact AP.out.get (i := 1) rfl
  have f9 := (AF.out.keep (Ao.out.block _ AF.out.lt)).get (i := 0) rfl
  go_upto_region 9 with fail
  go_wp2_with fail
  refine Cn.out.mono ?_
  rintro _ w7 ⟨rfl, Z7, CK⟩
  have AE := hide CK
  clear CK Cn f0 f1 f9 AP
  obtain ⟨W1, Ce⟩ : ∃ W1, ft l (fun _ => false) [((q1 : Int), (j1 : Int))] = W1 := ⟨_, rfl⟩
  have DP := hide Ce
  have BK : Hid (LI b5 b8 wm mb l m W1 w7) := hide (by rw [← Ce]; exact AE.out.inv.2)
  clear Ce
  have AU := hide (mG w7 (some ⟨g1, o1, none⟩) m lc)
  go_wp2_with (go_at_call 96; refine AU.out.mono ?_; rintro _ wD ⟨b2, rfl, AW, AY, AR⟩; have Bv := hide AW; have Av := hide AY; have BX := hide AR; clear AW AY AR AU)
  have BD : Hid (∀ g, g < wC.heap.size → wD.heap[g]? = wC.heap[g]?) := hide fun g hg => by
   have z := Ae.out
   have s4 := Ak.out.size
   have s5 := Aq.out.size
   have s6 := Ao.out.size
   have s7 := AE.out.fr.size
   rw [Av.out.block g (by omega), AE.out.fr.block g (by omega) (by omega), Ao.out.block g (by omega), AO.out.block g hg]
  have AB : Hid (wC.heap.size ≤ w4.heap.size ∧ w4.heap.size ≤ w5.heap.size ∧ w5.heap.size ≤ w6.heap.size ∧ w6.heap.size ≤ w7.heap.size ∧ w7.heap.size ≤ wD.heap.size ∧ w7.heap.size ≤ b2 ∧ b2 < wD.heap.size) := hide ⟨Ak.out.size, Aq.out.size, Ao.out.size, AE.out.fr.size, Av.out.size, BX.out, Bv.out.lt⟩
  have Az : Hid (Below w.heap.size w wD) := hide (by
   have h1 := Aj.out.trans (AO.out.mono Aj.out.size)
   have h2 := h1.trans (Ao.out.mono h1.size)
   have h3 := h2.trans (show Below w.heap.size w6 w7 from AE.out.fr.below fun k hk => ⟨by have := h2.size; omega, fun e => by have := Ae.out; have := Aj.out.size; omega⟩)
   exact h3.trans (Av.out.mono h3.size))
  have Bg := hide (BK.out.go Av.out)
  have H9D : Hid (Fx b9 87 [.func (.func 97) #[] #[aa b8, aa b5]] wD) := hide (((AF.out.keep (Ao.out.block _ AF.out.lt)).keep (AE.out.fr.block _ (by have := Ae.out; have := AB.out; omega) (by have := Ae.out; omega))).keep (Av.out.block _ (by have := Ae.out; have := AB.out; omega)))
  have H0D := hide (Ca.out.keep (BD.out _ Ca.out.lt))
  have BI := hide ((BD.out _ (aL Bk.out)).trans Bk.out)
  have Bm : Hid (D < wC.heap.size) := hide (aL Bk.out)
  clear Ak Aq Ao Bb AI AF Cf AE Av BX BK AO DL Ca Cd BU CL Bk DC BH CT Dc
  refine (wpIn_wide (n := 3)).1 ?_
  refine m9 11 12 (bb := b2) (len := m) (lc := lc) (la := some ⟨g1, o1, none⟩) (s := s) (p1 := 46) (p2 := 47) 3 (by omega) (by omega) rfl (enters_go Tryz.func133 (by kernel_rfl) (by kernel_rfl))
   (fun k W => k ≤ m ∧ Fr (fun g => g = wm) wD W ∧ ∃ Wk, fe T l m W1 = fe T l k Wk ∧ LI b5 b8 wm mb l m Wk W) ?hst ?hE ?hS ?h0 ?assign ?body ?done
  case hst =>
   rintro k W W' ⟨h1, h2, Wk, h3, h4⟩ hb
   exact ⟨h1, wk h2 hb, Wk, h3, h4.keep fun g hg => hb.block g (by
    have := Bg.out.lt
    rcases hg with rfl | rfl | rfl | rfl <;> omega)⟩
  case hE =>
   rintro k W ⟨h1, h2, -⟩
   have z := Ae.out
   have z2 := AB.out
   refine ⟨(Bv.out.keep (h2.block _ Bv.out.lt (by omega))).get (i := 0) rfl, fun i hi => ?_⟩
   obtain ⟨g, o, e, hg, c0, c1, c2, c3, c4⟩ := Bo.out i (by rw [HM.out]; exact hi)
   have hk : W.heap[g]? = w.heap[g]? := (h2.block g (by have := Az.out.size; omega) (by have := Aj.out.size; omega)).trans (Az.out.block g hg)
   exact ⟨g, o, e, (World.cell?_of_block hk).trans c0, (World.cell?_of_block hk).trans c1, (World.cell?_of_block hk).trans c2, (World.cell?_of_block hk).trans c3, (World.cell?_of_block hk).trans c4⟩
  case hS => exact fun k W h => h.2.1.size
  case h0 => exact ⟨Nat.le_refl _, Fr.refl _ _, W1, rfl, Bg.out⟩
  case assign =>
   intro l' k W K hK
   simp only [List.setIfInBounds_toArray, List.set_cons_succ, List.set_cons_zero] at hK ⊢
   gi_wp2
   exact hK
  case body =>
   intro l' k Ba W hI hk At DV
   obtain ⟨-, Am, Wk, BR, AK⟩ := hI
   obtain ⟨x, hx⟩ := an (l := l) (i := k) (by rw [HM.out]; exact hk)
   obtain ⟨e1, e2, e3, e4, e5, AG⟩ := Bt.out k x hx
   have CB : Below w.heap.size w W := Az.out.trans (Am.below fun i hi => ⟨by have := Az.out.size; omega, fun e => by have := Ae.out; have := Aj.out.size; omega⟩)
   have Bi : Hid (fe T l (k + 1) Wk = fe T l k (if Wk k then ft l Wk (formM T x).2 else Wk)) := hide (by show fe T l k (if Wk k then (match l[k]? with | some s => ft l Wk (formM T s).2 | none => Wk) else Wk) = _; rw [hx])
   have c8 := AK.b8.get (i := 0) rfl
   have cw := AK.wx.get (kt hk)
   have Dd := hide AK
   have Bn := hide Am
   have Bw := hide BR
   have Ct := hide hk
   simp only [Nat.reduceSub]
   cases hwk : Wk k with
   | false =>
    rw [hwk] at cw
    have HE : Hid (fe T l m W1 = fe T l k Wk) := hide (by rw [Bw.out, Bi.out, hwk]; rfl)
    clear hwk Bi Bw hx AG AK Am BR e1 e2 e3 e4 e5
    refine wpIn_block ?_
    gi_wp2
    exact ⟨⟨Nat.le_refl _, fun i o _ h1 _ => h1⟩, by have := Ct.out; omega, Bn.out, Wk, HE.out, Dd.out⟩
   | true =>
    rw [hwk] at cw
    have HE : Hid (fe T l m W1 = fe T l k (ft l Wk (formM T x).2)) := hide (by rw [Bw.out, Bi.out, hwk]; rfl)
    obtain ⟨g3, o3, DM, DI, -, -, -, -, -, -, -, Ab, -, AQ, Bc⟩ := HL.out k x hx
    have C := hide (ni (K := K) (T := T) (Inv := xQ b5 b8 wm mb l m Wk) (Z := fun k => k = wm) (w := W) (l := []) (tag := x.tag) (lit := x.lit) (how := x.how) (rule := x.rule) (ch := x.ch) (ca := s.a k) (cc := s.c k) HT.out (HX.out.go CB) ⟨rfl, AK⟩ (fun i hi => ⟨fun hs => by have := HX.out.lt i hs; have := Ae.out; have := Aj.out.size; omega, by have := HX.out.n0; have := Ae.out; have := Aj.out.size; omega⟩) (WN.out Wk) AQ Bc Ab (AG.keep fun g hg => CB.block g hg).chs (fun g o e hne => fun e2 => by
     obtain ⟨c0, Dr⟩ := an (l := x.ch) (i := 0) (by cases hz : x.ch with | nil => exact absurd hz hne | cons => simp)
     obtain ⟨g', o', e', hg', -, -⟩ := AG 0 c0 Dr
     rw [e] at e'
     cases e'
     have := Ae.out
     have := Aj.out.size
     omega))
    have t0 : W.cell? ⟨Ba, 0, none⟩ = some (.int .i64 x.tag) := by rw [← e1]; exact At.get (i := 0) rfl
    have t1 : W.cell? ⟨Ba, 1, none⟩ = some (.int .i64 x.lit) := by rw [← e2]; exact At.get (i := 1) rfl
    have t2 : W.cell? ⟨Ba, 2, none⟩ = some (.int .i64 x.how) := by rw [← e3]; exact At.get (i := 2) rfl
    have t3 : W.cell? ⟨Ba, 3, none⟩ = some (.int .i64 x.rule) := by rw [← e4]; exact At.get (i := 3) rfl
    have t4 : W.cell? ⟨Ba, 4, none⟩ = some (.slice (s.a k) x.ch.length (s.c k)) := by rw [← e5]; exact At.get (i := 4) rfl
    have f9 := (H9D.out.keep (Am.block _ H9D.out.lt (by have := Ae.out; omega))).get (i := 0) rfl
    have f0 := (H0D.out.keep (Am.block _ H0D.out.lt (by have := Ax.out; have := Ae.out; have := Cm.out.size; omega))).get (i := 0) rfl
    clear hwk Bi Bw hx AG AK Am BR e1 e2 e3 e4 e5 Ab AQ Bc At
    obtain ⟨fm, BA⟩ : ∃ z, formM T ⟨x.tag, x.lit, x.how, x.rule, x.ch⟩ = z := ⟨_, rfl⟩
    rw [BA] at C
    have DS : Hid (fe T l m W1 = fe T l k (ft l Wk fm.2)) := hide (by rw [← BA]; exact HE.out)
    obtain ⟨Ah, Ag, Ai, Af, AD⟩ := x
    simp only at C t0 t1 t2 t3 t4
    clear BA HE
    refine wpIn_block ?_
    gi_wp2_with (refine ⟨trivial, ?_⟩; gi_at_call 40; refine (CallsIn.inRound l' (callsIn_wide.2 C.out)).mono ?_; rintro _ w8 ⟨rfl, Z8, Cl⟩; have Bl := hide Cl; clear Cl C)
    exact ⟨⟨Bl.out.fr.size, fun i o hi h1 h2 => (Bl.out.fr.block i (aL h1) (by have := Ae.out; have := AB.out; omega)).trans h1⟩, by have := Ct.out; omega, Bn.out.trans Bl.out.fr, _, DS.out, Bl.out.inv.2⟩
  case done =>
   intro D2 wE DB hI Au
   obtain ⟨-, Bz, Wf, CC, AC⟩ := hI
   have DQ : Hid (jV T l = eK Wf 0 l) := hide (by
    have AM := DE.out
    unfold jV
    rw [HM.out, show m - 1 = n1 by have := DN.out; omega, AM]
    show eK (fe T l m (ft l (fun _ => false) [(x1.lit, x1.tag)])) 0 l = _
    rw [AN.out.2.2.1, AN.out.2.2.2.1, DP.out, CC]
    rfl)
   have Aw : Hid (Below w.heap.size w wE) := hide (Az.out.trans (Bz.below fun i hi => ⟨by have := Az.out.size; omega, fun e => by have := Ae.out; have := Aj.out.size; omega⟩))
   have DF : Hid (wE.heap[D]? = some (.deferred (some []))) := hide ((Bz.block D (by have := AB.out; have := Bm.out; omega) (by have := Ae.out; have := Bm.out; omega)).trans BI.out)
   have HD2E := hide Au
   have AA : Hid (D < D2 ∧ D2 < wE.heap.size ∧ w.heap.size ≤ D) := hide ⟨by have := Bm.out; have := AB.out; omega, aL Au, by have := CS.out; have := Ax.out; omega⟩
   have Cc := hide AC.wx
   have HB8E := hide AC.b8
   have Es : Hid (wm < wE.heap.size ∧ b8 < wE.heap.size) := hide ⟨AC.wx.lt, AC.b8.lt⟩
   obtain ⟨iC, Di, Dl, Du, DR⟩ := info_parts rG
   obtain ⟨iS, Dp, Dq, Dj, Dh⟩ := info_parts tF
   clear Bz CC AC Au DB Az BD Bg H9D H0D BI AB Cm Aj Bv Bm CS BS
   go_wp2_with fail
   go_loopw [13, 58] (fun u x wr => ∃ (k n : Nat) (tl : List StM) (ma : Option Addr) (mc : Nat), k ≤ m ∧ n ≤ k ∧ Hid (tl.length = n) ∧ x = .int .i64 k ∧ u = .slice ma n mc ∧ Hid (Gy 32 5 j4 wE.heap.size tl (.slice ma n mc) wr) ∧ Hid (eK Wf 0 l = tl ++ eK Wf k (l.drop k)) ∧ Hid (Below wE.heap.size wE wr)) (fun _ x _ => m - (intOf x).toNat)
   case atStart => exact ⟨0, 0, [], none, 0, by omega, by omega, hide rfl, rfl, rfl, hide Gy.nil, hide (by rw [List.drop_zero]; rfl), hide (Below.refl _ _)⟩
   case round =>
    obtain ⟨k, n, tl, ma, mc, hk, Ei, Br, rfl, rfl, HG, AH, Ar⟩ := hrel
    by_cases hlt : k < m
    · obtain ⟨x, hx⟩ := an (l := l) (i := k) (by rw [HM.out]; exact hlt)
      obtain ⟨e1, e2, e3, e4, e5, AG⟩ := Bt.out k x hx
      obtain ⟨g3, o3, DM, DI, -, -, -, -, -, -, -, Ab, -, AQ, Bc⟩ := HL.out k x hx
      obtain ⟨g, o, DH, hg, c0, c1, c2, c3, c4⟩ := Bo.out k (by rw [HM.out]; exact hlt)
      cases DH
      have AJ : wr.heap[g1]? = w.heap[g1]? := (Ar.out.block g1 (by have := Aw.out.size; omega)).trans (Aw.out.block g1 hg)
      have d0 := (World.cell?_of_block (a := ⟨g1, o1 + k * 5, none⟩) AJ).trans c0
      have d1 := (World.cell?_of_block (a := ⟨g1, o1 + k * 5 + 1, none⟩) AJ).trans c1
      have d2 := (World.cell?_of_block (a := ⟨g1, o1 + k * 5 + 2, none⟩) AJ).trans c2
      have d3 := (World.cell?_of_block (a := ⟨g1, o1 + k * 5 + 3, none⟩) AJ).trans c3
      have d4 := (World.cell?_of_block (a := ⟨g1, o1 + k * 5 + 4, none⟩) AJ).trans c4
      rw [e1] at d0
      rw [e2] at d1
      rw [e3] at d2
      rw [e4] at d3
      rw [e5] at d4
      have Bq : Hid (eK Wf k (l.drop k) = if Wf k then x :: eK Wf (k + 1) (l.drop (k + 1)) else eK Wf (k + 1) (l.drop (k + 1))) := hide (by rw [be hx]; rfl)
      have hA := ae wr (.cells #[.int .i64 x.tag, .int .i64 x.lit, .int .i64 x.how, .int .i64 x.rule, .slice (s.a k) x.ch.length (s.c k)] 32)
      have hQ : Fx wr.heap.size 32 [.int .i64 x.tag, .int .i64 x.lit, .int .i64 x.how, .int .i64 x.rule, .slice (s.a k) x.ch.length (s.c k)] (wr.alloc (.cells #[.int .i64 x.tag, .int .i64 x.lit, .int .i64 x.how, .int .i64 x.rule, .slice (s.a k) x.ch.length (s.c k)] 32)) := heap_alloc_new wr _
      have Bp : Hid (Src Tryz.prog 2 30 (.slice (s.a k) x.ch.length (s.c k)) x.ch.length (prs x.ch) (wr.alloc (.cells #[.int .i64 x.tag, .int .i64 x.lit, .int .i64 x.how, .int .i64 x.rule, .slice (s.a k) x.ch.length (s.c k)] 32))) := hide (Fz ((AG.keep (w' := wr.alloc (.cells #[.int .i64 x.tag, .int .i64 x.lit, .int .i64 x.how, .int .i64 x.rule, .slice (s.a k) x.ch.length (s.c k)] 32)) fun g hg => (hA.block g (by have := Ar.out.size; have := Aw.out.size; omega)).trans ((Ar.out.block g (by have := Aw.out.size; omega)).trans (Aw.out.block g hg))).chs))
      have HA := hide hA
      have HQ := hide hQ
      have Eb := hide (And.intro AQ Bc)
      have BW := DO.out x (List.mem_of_getElem? hx)
      clear AJ c0 c1 c2 c3 c4 e1 e2 e3 e4 e5 AG hx hA hQ AQ Bc
      obtain ⟨Ah, Ag, Ai, Af, AD⟩ := x
      simp only at d0 d1 d2 d3 d4 Bp HQ HA Ab BW
      have Ed : Hid (Exists fun z : StM => z = ⟨Ah, Ag, Ai, Af, AD⟩) := hide ⟨_, rfl⟩
      obtain ⟨cn, BT⟩ : ∃ c, AD.length = c := ⟨_, rfl⟩
      have CU := hide BT
      rw [BT] at d4 Bp HQ HA Ab BW
      clear BT
      go_upto_region 19 with fail
      clear d0 d1 d2 d3 d4
      generalize wr.alloc (.cells #[.int .i64 Ah, .int .i64 Ag, .int .i64 Ai, .int .i64 Af, .slice (s.a k) cn (s.c k)] 32) = w1 at *
      obtain ⟨As, Be⟩ : ∃ b, wr.heap.size = b := ⟨_, rfl⟩
      have Df := hide Be
      rw [Be] at HQ ⊢
      clear Be
      have AS := hide (Ar.out.trans (HA.out.mono Ar.out.size))
      have c8 := (HB8E.out.keep (AS.out.block _ HB8E.out.lt)).get (i := 0) rfl
      have cw := (Cc.out.keep (AS.out.block _ Cc.out.lt)).get (kt hlt)
      cases hwk : Wf k with
      | false =>
       rw [hwk] at cw
       have HE : Hid (eK Wf 0 l = tl ++ eK Wf (k + 1) (l.drop (k + 1))) := hide (by rw [AH.out, Bq.out, hwk]; rfl)
       have Dm := hide (HG.out.keep iV (wd := w1) (fun g h1 h2 => HA.out.block g h2) HA.out.size)
       clear hwk Bq AH HG
       go_wp2_with fail
       go_roundw
       case rel => exact ⟨k + 1, n, tl, ma, mc, by omega, by omega, Br, by go_num, rfl, Dm, HE, AS⟩
       case measure => simp [intOf]; omega
      | true =>
       rw [hwk] at cw
       have HE : Hid (eK Wf 0 l = (tl ++ [⟨Ah, Ag, Ai, Af, AD⟩]) ++ eK Wf (k + 1) (l.drop (k + 1))) := hide (by rw [AH.out, Bq.out, hwk, List.append_assoc]; rfl)
       clear hwk Bq AH
       have k4 := HQ.out.get (i := 4) rfl
       have CJ : Hid (w1.ownsRow w1.heap.size 100 2 (.slice none 0 0) 0 []) := hide ⟨rfl, .inl ⟨rfl, rfl⟩⟩
       go_upto_region 20 with fail
       go_upto_region 21 with (at_builtin; go_must (refine i5 _ (Nat.le_refl _) (by rfl) _ _ 30 30 rfl 100 iC _ 2 16 Tryz.underlying30 Di Dl Du DR rfl (.slice none 0 0) 0 [] rfl CJ.out (.slice (s.a k) cn (s.c k)) cn (prs AD) rfl Bp.out (by unfold maxLen; omega) (by omega) ?_); intro v4 w4 Ay Cy CZ; rw [Nat.zero_add, List.nil_append] at Ay; obtain ⟨a4, c4, rfl⟩ := bG Ay; have CW := hide Ay; have Ak : Hid (Below w1.heap.size w1 w4) := hide ((Fr.of_grown (Z := fun _ => False) Cy (fun k e => by simp [Value.ownBlock] at e)).below fun k hk => ⟨hk, fun h => h⟩); have Bx := hide (HQ.out.keep (Ak.out.block _ HQ.out.lt)); have z4 := Bx.out.frz 4; have y4 := Bx.out.get (i := 4) rfl; clear Ay Cy CZ)
       have AX : Hid (Fx As 32 [.int .i64 Ah, .int .i64 Ag, .int .i64 Ai, .int .i64 Af, .slice a4 cn c4] (w4.setCell ⟨As, 4, none⟩ (.slice a4 cn c4))) := hide (Bx.out.set 4 (.slice a4 cn c4))
       have DW := HQ.out.lt
       have BP := hide (owns_keep (w' := w4.setCell ⟨As, 4, none⟩ (.slice a4 cn c4)) CW.out fun g hg => other_set (by have := (CW.out.lt g hg).1; omega))
       have s1 := HA.out.size
       have s4 := Ak.out.size
       have s5 := Ar.out.size
       have Ec := Df.out
       have DY : w4.heap.size ≤ (w4.setCell ⟨As, 4, none⟩ (.slice a4 cn c4)).heap.size := by simp
       have CP : Hid (∀ g, wE.heap.size ≤ g → g < wr.heap.size → (w4.setCell ⟨As, 4, none⟩ (.slice a4 cn c4)).heap[g]? = wr.heap[g]?) := hide fun g h1 h2 => by
        rw [other_set (by omega), Ak.out.block g (by omega), HA.out.block g h2]
       have Aq : Hid (Below wE.heap.size wE (w4.setCell ⟨As, 4, none⟩ (.slice a4 cn c4))) := hide ((AS.out.trans (Ak.out.mono AS.out.size)).setCell (p := ⟨As, 4, none⟩) (by show wE.heap.size ≤ As; omega) _)
       clear k4 z4 y4 c8 cw Bx HQ CJ Bp
       generalize w4.setCell ⟨As, 4, none⟩ (.slice a4 cn c4) = w5 at *
       have f0 := AX.out.get (i := 0) rfl
       have f1 := AX.out.get (i := 1) rfl
       have f2 := AX.out.get (i := 2) rfl
       have f3 := AX.out.get (i := 3) rfl
       have f4 := AX.out.get (i := 4) rfl
       obtain ⟨Z, xs, Al, hz, Bd⟩ := HG.out
       rw [Br.out] at Al
       have Ck := hide Al
       have HZ := hide hz
       have De := hide Bd
       have CY := hide (owns_keep Al fun g hg => ((ae w5 (.cells #[.int .i64 Ah, .int .i64 Ag, .int .i64 Ai, .int .i64 Af, .slice a4 cn c4] 32)).block g (by have := (Al.lt g hg).2; omega)).trans (CP.out g (Al.lt g hg).1 (Al.lt g hg).2))
       have Dv : Hid (∀ g, Value.ownBlock (.slice ma n mc) = some g → wE.heap.size ≤ g) := hide fun g e => (Al.lt g e).1
       clear Al hz Bd HG
       go_wp2_with (at_builtin; go_must (refine bK _ rfl _ _ 27 rfl wE.heap.size 32 iS _ 5 56 Tryz.underlying27 Dp Dq Dj Dh rfl (by decide) (.slice ma n mc) n xs rfl CY.out ⟨w5.heap.size, 0, none⟩ 1 [.int .i64 Ah, .int .i64 Ag, .int .i64 Ai, .int .i64 Af, .slice a4 cn c4] rfl rfl (mY (cs := [.int .i64 Ah, .int .i64 Ag, .int .i64 Ai, .int .i64 Af, .slice a4 cn c4]) rfl) (by intro u hu; simp at hu; rcases hu with rfl | rfl | rfl | rfl | rfl <;> rfl) (by unfold maxLen; omega) (by omega) (by simp; omega) ?_); intro g4 BN w6 Bj Co; have Do := hide Bj; have CV := hide Co; clear Bj Co)
       have Dt : Hid (Fr (fun k => wE.heap.size ≤ k) w5 w6) := hide (dN rfl (by rcases CV.out with h | ⟨h1, h2⟩; exact .inl h; exact .inr ⟨by simpa using h1, h2⟩) Dv.out)
       have Dx : Hid (Gy 32 5 j4 wE.heap.size (tl ++ [⟨Ah, Ag, Ai, Af, AD⟩]) (.slice (some ⟨g4, 0, none⟩) (n + 1) BN) w6) := hide (Gy.grow (Zn := fun g => Value.ownBlock (.slice a4 cn c4) = some g) iV Br.out Ck.out HZ.out De.out CP.out (by omega) (by omega) (fun g hg => ⟨by have := (BP.out.lt g hg).1; omega, (BP.out.lt g hg).2⟩) ⟨.slice a4 cn c4, rfl, th (by rw [CU.out]; exact BP.out) (fun g e => e) (by rw [CU.out]; exact Ab)⟩ rfl Do.out (by rcases CV.out with h | ⟨h1, h2⟩; exact .inl h; exact .inr ⟨by simpa using h1, h2⟩))
       have Ao : Hid (Below wE.heap.size wE w6) := hide (Aq.out.trans (Dt.out.below fun k hk => ⟨by have := Aq.out.size; omega, by omega⟩))
       go_roundw
       case rel => exact ⟨k + 1, n + 1, tl ++ [⟨Ah, Ag, Ai, Af, AD⟩], some ⟨g4, 0, none⟩, BN, by omega, by omega, hide (by rw [List.length_append, Br.out]; rfl), by go_num, rfl, Dx, HE, Ao⟩
       case measure => simp [intOf]; omega
    · have HE : Hid (jV T l = tl) := hide (by rw [DQ.out, AH.out, List.drop_eq_nil_of_le (by rw [HM.out]; omega)]; unfold eK; rw [List.append_nil])
      have CX := hide ((Ar.out.block D (by have := AA.out; omega)).trans DF.out)
      have HD2E2 := hide ((Ar.out.block D2 (by have := AA.out; omega)).trans HD2E.out)
      clear AH
      go_wp2_with fail
      refine ⟨by simp, .inl ⟨_, _, rfl, run_takeDeferred HD2E2.out, ?_⟩⟩
      have Da : Hid ((wr.putObj D2 (.deferred none)).heap[D]? = some (.deferred (some []))) := hide ((World.putObj_heap_other (by have := AA.out; omega)).trans CX.out)
      refine ⟨by simp, .inl ⟨_, _, rfl, run_takeDeferred Da.out, ?_⟩⟩
      refine ⟨.slice ma n mc, by simp [results, go_sem], .slice ma n mc, rfl, ?_, ?_⟩
      · rw [HE.out]
        have hk : ∀ g, wE.heap.size ≤ g → ((wr.putObj D2 (.deferred none)).putObj D (.deferred none)).heap[g]? = wr.heap[g]? := fun g hg => by
         rw [World.putObj_heap_other (by have := AA.out; omega), World.putObj_heap_other (by have := AA.out; omega)]
        exact (HG.out.keep iV (fun g h1 _ => hk g h1) (by simp)).down Aw.out.size
      · have h1 := Aw.out.trans (Ar.out.mono Aw.out.size)
        exact h1.trans ⟨rfl, rfl, rfl, by simp, fun i hi => by rw [World.putObj_heap_other (by have := AA.out; omega), World.putObj_heap_other (by have := AA.out; omega)]⟩
end
end Go.Proofs.YtmlhcncagdfjfaaGreat.De
