import Derived.Test.YtmlhcncagdfjfaaGreatKw
import Derived.Deep.RegionHeld3
set_option maxRecDepth 100000
set_option maxHeartbeats 6400000
namespace Go.Proofs.YtmlhcncagdfjfaaGreat
open Go.RowKit
theorem ar {X Y : World} {p : Addr} {u : Value} (h : X.cell? p = some u) (hb : Below X.heap.size X Y) : Y.cell? p = some u := (World.cell?_of_block (hb.block p.block (World.block_lt_of_cell? X _ h))).trans h
abbrev S4 (wz : World) (p0 p1 p2 p3 : Addr) (u0 u1 u2 u3 : Value) (X : World) : Prop := X.cell? p0 = some u0 ∧ X.cell? p1 = some u1 ∧ X.cell? p2 = some u2 ∧ X.cell? p3 = some u3 ∧ Below wz.heap.size wz X
section
variable {wz X Y : World} {p0 p1 p2 p3 : Addr} {u0 u1 u2 u3 : Value}
theorem S4.b (h : S4 wz p0 p1 p2 p3 u0 u1 u2 u3 X) : Below wz.heap.size wz X := h.2.2.2.2
theorem S4.drew (h : S4 wz p0 p1 p2 p3 u0 u1 u2 u3 X) : S4 wz p0 p1 p2 p3 u0 u1 u2 u3 X.drew := ⟨h.1, h.2.1, h.2.2.1, h.2.2.2.1, (h.2.2.2.2).drew⟩
theorem S4.below (h : S4 wz p0 p1 p2 p3 u0 u1 u2 u3 X) (hb : Below X.heap.size X Y) : S4 wz p0 p1 p2 p3 u0 u1 u2 u3 Y := ⟨ar (h.1) hb, ar (h.2.1) hb, ar (h.2.2.1) hb, ar (h.2.2.2.1) hb, (S4.b h).trans (hb.mono (S4.b h).size)⟩
end
abbrev S6 (wz : World) (p0 p1 p2 p3 p4 p5 : Addr) (u0 u1 u2 u3 u4 u5 : Value) (X : World) : Prop := X.cell? p0 = some u0 ∧ X.cell? p1 = some u1 ∧ X.cell? p2 = some u2 ∧ X.cell? p3 = some u3 ∧ X.cell? p4 = some u4 ∧ X.cell? p5 = some u5 ∧ Below wz.heap.size wz X
section
variable {wz X Y : World} {p0 p1 p2 p3 p4 p5 : Addr} {u0 u1 u2 u3 u4 u5 : Value}
theorem S6.b (h : S6 wz p0 p1 p2 p3 p4 p5 u0 u1 u2 u3 u4 u5 X) : Below wz.heap.size wz X := h.2.2.2.2.2.2
theorem S6.drew (h : S6 wz p0 p1 p2 p3 p4 p5 u0 u1 u2 u3 u4 u5 X) : S6 wz p0 p1 p2 p3 p4 p5 u0 u1 u2 u3 u4 u5 X.drew := ⟨h.1, h.2.1, h.2.2.1, h.2.2.2.1, h.2.2.2.2.1, h.2.2.2.2.2.1, (h.2.2.2.2.2.2).drew⟩
theorem S6.below (h : S6 wz p0 p1 p2 p3 p4 p5 u0 u1 u2 u3 u4 u5 X) (hb : Below X.heap.size X Y) : S6 wz p0 p1 p2 p3 p4 p5 u0 u1 u2 u3 u4 u5 Y := ⟨ar (h.1) hb, ar (h.2.1) hb, ar (h.2.2.1) hb, ar (h.2.2.2.1) hb, ar (h.2.2.2.2.1) hb, ar (h.2.2.2.2.2.1) hb, (S6.b h).trans (hb.mono (S6.b h).size)⟩
end
abbrev S8 (wz : World) (p0 p1 p2 p3 p4 p5 p6 p7 : Addr) (u0 u1 u2 u3 u4 u5 u6 u7 : Value) (X : World) : Prop := X.cell? p0 = some u0 ∧ X.cell? p1 = some u1 ∧ X.cell? p2 = some u2 ∧ X.cell? p3 = some u3 ∧ X.cell? p4 = some u4 ∧ X.cell? p5 = some u5 ∧ X.cell? p6 = some u6 ∧ X.cell? p7 = some u7 ∧ Below wz.heap.size wz X
section
variable {wz X Y : World} {p0 p1 p2 p3 p4 p5 p6 p7 : Addr} {u0 u1 u2 u3 u4 u5 u6 u7 : Value}
end
abbrev Bf (b : Nat) (v : Value) (w : World) : Prop := Fx b 172 [v] w
abbrev Bi (b : Nat) (x : Int) (w : World) : Prop := Fx b 3 [.int .i64 x] w
section
variable {K n b b2 : Nat} {A : Ka} {T : Th} {F m : List Int} {ma : Option Addr} {mc : Nat} {w w' : World} {p : Int → Bool} {v : Value}
theorem lM {x : Int} (h : Kn K A T F n m ma mc w) (hb : Bk b K w) (h2 : Bf b2 v w) (hv : Ts w p (aV T) v) (hx : cP n x) :
    Calls Tryz.prog 229 #[.int .i64 x, aa b, aa b2] w fun e w' => e = .returned (.bool ((ag T kA x).all p)) ∧ Below w.heap.size w w' := by
 obtain ⟨Ad, Ae⟩ := hx
 obtain ⟨q, rfl⟩ := Int.eq_ofNat_of_zero_le Ad
 have Ab : q < n := by omega
 obtain ⟨_, _, la, lc, eg, -, x0, -, Ac, Aa⟩ := bH h.l2 (fU Ab)
 cases eg
 rw [Nat.zero_add] at x0
 have k7 := h.bx.get (i := 7) rfl
 have c1 := hb.get (i := 0) rfl
 have c2 := h2.get (i := 0) rfl
 have C : Hid (∀ X, Below w.heap.size w X → Calls Tryz.prog 193 #[.slice la (ag T kA q).length lc, v] X fun e w' => e = .returned (.bool ((ag T kA q).all p)) ∧ Below X.heap.size X w') := hide fun X hX => eN (c := lc) (hv.go hX) (Aa.at1.below hX) Ac (fun x hx => bN hx)
 generalize (ag T kA q).all p = o at *
 clear h hb h2 Aa hv
 have HT : S4 w ⟨b, 0, none⟩ ⟨K, 7, none⟩ ⟨A.s2, q, none⟩ ⟨b2, 0, none⟩ (aa K) (.slice (some ⟨A.s2, 0, none⟩) n n) (.slice la (ag T kA q).length lc) (v) w := ⟨c1, k7, x0, c2, Below.refl _ _⟩
 go_enter Tryz.func229, Tryz.ntmps229
 go_upto_region 1 with fail
 go_region_held3 (fun X : World => S4 w ⟨b, 0, none⟩ ⟨K, 7, none⟩ ⟨A.s2, q, none⟩ ⟨b2, 0, none⟩ (aa K) (.slice (some ⟨A.s2, 0, none⟩) n n) (.slice la (ag T kA q).length lc) (v) X) (first | exact S4.drew ‹_› | assumption | exact S4.below ‹_› ‹_›) (first | (go_at_call 193; refine (C.out _ (S4.b ‹_›)).mono ?_; rintro e w' ⟨rfl, hb⟩))
 rename_i hS4
 go_wp2_with fail
 go_ret
 exact ⟨rfl, S4.b hS4⟩
theorem mS (h : Kn K A T F n m ma mc w) (hb : Bk b K w) (h2 : Bf b2 v w) (hv : Ts w p (aV T) v) : Ts w (fun x => (ag T kA x).all p) (cP n) (.func (.func 229) #[] #[aa b, aa b2]) :=
 ⟨_, _, rfl, enters_go Tryz.func229 (by kernel_rfl) (by kernel_rfl), fun x w' hx hw => lM (h.go hw) (hb.keep (hw.block _ hb.lt)) (h2.keep (hw.block _ h2.lt)) (hv.go hw) hx⟩
theorem l5 {q : Nat} (h : Kn K A T F n m ma mc w) (hq : q < n) (hv : Ts w p (aV T) v) :
    Calls Tryz.prog 199 #[aa K, .int .i64 q, v] w fun e w' => e = .returned (.bool ((row T.foes q).all fun f => (ag T kA f).all p)) ∧ Below w.heap.size w w' := by
 have Ac := ae w (.cells #[aa K] 152)
 have Ae := ae (w.alloc (.cells #[aa K] 152)) (.cells #[v] 172)
 have hB : Below w.heap.size w ((w.alloc (.cells #[aa K] 152)).alloc (.cells #[v] 172)) := Ac.trans (Ae.mono Ac.size)
 have Ab : Bk w.heap.size K ((w.alloc (.cells #[aa K] 152)).alloc (.cells #[v] 172)) := (Ae.block _ (by simp)).trans (heap_alloc_new w _)
 have Ad : Bf (w.heap.size + 1) v ((w.alloc (.cells #[aa K] 152)).alloc (.cells #[v] 172)) := by
  have := heap_alloc_new (w.alloc (.cells #[aa K] 152)) (.cells #[v] 172)
  simpa [Fx] using this
 have hK := h.go hB
 have hV := hv.go hB
 obtain ⟨o, ho⟩ : ∃ o, ((row T.foes q).all fun f => (ag T kA f).all p) = o := ⟨_, rfl⟩
 rw [ho]
 have HO := hide ho
 obtain ⟨fk, Ai, Af, Al, -⟩ := hv
 rw [Af] at hB Ab Ad hK hV ⊢
 clear h Ac Ae ho Af
 go_enter Tryz.func199, Tryz.ntmps199
 go_upto_region 1 with fail
 generalize (w.alloc (.cells #[aa K] 152)).alloc (.cells #[.func (.func fk) #[] Ai] 172) = W at *
 obtain ⟨l, hl⟩ := am (l := T.foes) (i := q) (by have := hK.pf.ok.fl; have := hK.pf.ln; omega)
 have Am : q < T.foes.length := (List.getElem?_eq_some_iff.1 hl).1
 obtain ⟨gr, go, bd, bp, Ag, -, x0, -, Ak, Aa⟩ := bH hK.ta.foes hl
 have k1 := hK.bx.get (i := 1) rfl
 rw [Ag] at k1
 have c1 := Ab.get (i := 0) rfl
 have er : row T.foes (q : Int) = l := bn (by rw [Int.toNat_natCast]; exact hl)
 have C := hide (eN (c := bp) (mS hK Ab Ad hV) Aa.at1 Ak (fun x hx => hK.pf.foe q hq x (by rw [er]; exact hx)))
 have HB := hide hB
 rw [er] at HO
 rw [HO.out] at C
 clear Ab Ad hK Aa hB Ag hl hV er
 go_wp2_with (go_at_call 193; refine C.out.mono ?_; rintro _ w2 ⟨rfl, Ah⟩; have Aj := hide Ah; clear Ah)
 go_ret
 exact ⟨rfl, HB.out.trans (Aj.out.mono HB.out.size)⟩
theorem mC {x : Int} (h : Kn K A T F n m ma mc w) (hb : Bk b K w) (h2 : Bf b2 v w) (hv : Ts w p (aV T) v) (hx : cP n x) :
    Calls Tryz.prog 230 #[.int .i64 x, aa b, aa b2] w fun e w' => e = .returned (.bool ((ag T kA x).any p)) ∧ Below w.heap.size w w' := by
 obtain ⟨Ad, Ae⟩ := hx
 obtain ⟨q, rfl⟩ := Int.eq_ofNat_of_zero_le Ad
 have Ab : q < n := by omega
 obtain ⟨_, _, la, lc, eg, -, x0, -, Ac, Aa⟩ := bH h.l2 (fU Ab)
 cases eg
 rw [Nat.zero_add] at x0
 have k7 := h.bx.get (i := 7) rfl
 have c1 := hb.get (i := 0) rfl
 have c2 := h2.get (i := 0) rfl
 have C : Hid (∀ X, Below w.heap.size w X → Calls Tryz.prog 190 #[.slice la (ag T kA q).length lc, v] X fun e w' => e = .returned (.bool ((ag T kA q).any p)) ∧ Below X.heap.size X w') := hide fun X hX => fB (c := lc) (hv.go hX) (Aa.at1.below hX) Ac (fun x hx => bN hx)
 generalize (ag T kA q).any p = o at *
 clear h hb h2 Aa hv
 have HT : S4 w ⟨b, 0, none⟩ ⟨K, 7, none⟩ ⟨A.s2, q, none⟩ ⟨b2, 0, none⟩ (aa K) (.slice (some ⟨A.s2, 0, none⟩) n n) (.slice la (ag T kA q).length lc) (v) w := ⟨c1, k7, x0, c2, Below.refl _ _⟩
 go_enter Tryz.func230, Tryz.ntmps230
 go_upto_region 1 with fail
 go_region_held3 (fun X : World => S4 w ⟨b, 0, none⟩ ⟨K, 7, none⟩ ⟨A.s2, q, none⟩ ⟨b2, 0, none⟩ (aa K) (.slice (some ⟨A.s2, 0, none⟩) n n) (.slice la (ag T kA q).length lc) (v) X) (first | exact S4.drew ‹_› | assumption | exact S4.below ‹_› ‹_›) (first | (go_at_call 190; refine (C.out _ (S4.b ‹_›)).mono ?_; rintro e w' ⟨rfl, hb⟩))
 rename_i hS4
 go_wp2_with fail
 go_ret
 exact ⟨rfl, S4.b hS4⟩
theorem m8 (h : Kn K A T F n m ma mc w) (hb : Bk b K w) (h2 : Bf b2 v w) (hv : Ts w p (aV T) v) : Ts w (fun x => (ag T kA x).any p) (cP n) (.func (.func 230) #[] #[aa b, aa b2]) :=
 ⟨_, _, rfl, enters_go Tryz.func230 (by kernel_rfl) (by kernel_rfl), fun x w' hx hw => mC (h.go hw) (hb.keep (hw.block _ hb.lt)) (h2.keep (hw.block _ h2.lt)) (hv.go hw) hx⟩
theorem nB {q : Nat} (h : Kn K A T F n m ma mc w) (hq : q < n) (hv : Ts w p (aV T) v) :
    Calls Tryz.prog 206 #[aa K, .int .i64 q, v] w fun e w' => e = .returned (.bool ((row T.foes q).any fun f => (ag T kA f).any p)) ∧ Below w.heap.size w w' := by
 have Ac := ae w (.cells #[aa K] 152)
 have Ae := ae (w.alloc (.cells #[aa K] 152)) (.cells #[v] 172)
 have hB : Below w.heap.size w ((w.alloc (.cells #[aa K] 152)).alloc (.cells #[v] 172)) := Ac.trans (Ae.mono Ac.size)
 have Ab : Bk w.heap.size K ((w.alloc (.cells #[aa K] 152)).alloc (.cells #[v] 172)) := (Ae.block _ (by simp)).trans (heap_alloc_new w _)
 have Ad : Bf (w.heap.size + 1) v ((w.alloc (.cells #[aa K] 152)).alloc (.cells #[v] 172)) := by
  have := heap_alloc_new (w.alloc (.cells #[aa K] 152)) (.cells #[v] 172)
  simpa [Fx] using this
 have hK := h.go hB
 have hV := hv.go hB
 obtain ⟨o, ho⟩ : ∃ o, ((row T.foes q).any fun f => (ag T kA f).any p) = o := ⟨_, rfl⟩
 rw [ho]
 have HO := hide ho
 obtain ⟨fk, Ai, Af, Al, -⟩ := hv
 rw [Af] at hB Ab Ad hK hV ⊢
 clear h Ac Ae ho Af
 go_enter Tryz.func206, Tryz.ntmps206
 go_upto_region 1 with fail
 generalize (w.alloc (.cells #[aa K] 152)).alloc (.cells #[.func (.func fk) #[] Ai] 172) = W at *
 obtain ⟨l, hl⟩ := am (l := T.foes) (i := q) (by have := hK.pf.ok.fl; have := hK.pf.ln; omega)
 have Am : q < T.foes.length := (List.getElem?_eq_some_iff.1 hl).1
 obtain ⟨gr, go, bd, bp, Ag, -, x0, -, Ak, Aa⟩ := bH hK.ta.foes hl
 have k1 := hK.bx.get (i := 1) rfl
 rw [Ag] at k1
 have c1 := Ab.get (i := 0) rfl
 have er : row T.foes (q : Int) = l := bn (by rw [Int.toNat_natCast]; exact hl)
 have C := hide (fB (c := bp) (m8 hK Ab Ad hV) Aa.at1 Ak (fun x hx => hK.pf.foe q hq x (by rw [er]; exact hx)))
 have HB := hide hB
 rw [er] at HO
 rw [HO.out] at C
 clear Ab Ad hK Aa hB Ag hl hV er
 go_wp2_with (go_at_call 190; refine C.out.mono ?_; rintro _ w2 ⟨rfl, Ah⟩; have Aj := hide Ah; clear Ah)
 go_ret
 exact ⟨rfl, HB.out.trans (Aj.out.mono HB.out.size)⟩
theorem ot {q : Nat} (h : Kn K A T F n m ma mc w) (hq : q < n) :
    Calls Tryz.prog 162 #[aa K, .int .i64 q] w fun e w' => e = .returned (.bool (eE T F m q)) ∧ Below w.heap.size w w' := by
 have hB := ae w (.cells #[aa K] 152)
 have Ab : Bk w.heap.size K (w.alloc (.cells #[aa K] 152)) := heap_alloc_new w _
 have hK := h.go hB
 obtain ⟨o, ho⟩ : ∃ o, eE T F m q = o := ⟨_, rfl⟩
 rw [ho]
 have HO := hide ho
 clear h ho
 go_enter Tryz.func162, Tryz.ntmps162
 go_upto_region 1 with fail
 generalize w.alloc (.cells #[aa K] 152) = W at *
 obtain ⟨_, _, la, lc, eg, -, x0, -, Ae, Aa⟩ := bH hK.l0 (fU hq)
 cases eg
 rw [Nat.zero_add] at x0
 have k4 := hK.bx.get (i := 4) rfl
 have k5 := hK.bx.get (i := 5) rfl
 have f0 := hK.ff.get (se hq)
 have c1 := Ab.get (i := 0) rfl
 have C := hide (fB (c := lc) (ou hK Ab) Aa.at1 Ae (fun x hx => bN hx))
 have HB := hide hB
 unfold eE at HO
 clear Ab hK Aa hB
 by_cases hf : (q : Int) ∈ F
 ·have HE : Hid (o = true) := hide (by rw [← HO.out, decide_eq_true hf]; rfl)
  rw [decide_eq_true hf] at f0
  clear hf C HO x0
  go_wp2_with fail
  go_ret
  exact ⟨by rw [HE.out]; rfl, HB.out⟩
 have HE : Hid ((ag T kS q).any (fun r => wholeB T m r 1) = o) := hide (by rw [← HO.out, decide_eq_false hf]; rfl)
 rw [decide_eq_false hf] at f0
 rw [HE.out] at C
 clear hf HO
 go_wp2_with (go_at_call 190; refine C.out.mono ?_; rintro _ w2 ⟨rfl, Ac⟩; have Ad := hide Ac; clear Ac)
 go_ret
 exact ⟨rfl, HB.out.trans (Ad.out.mono HB.out.size)⟩
theorem nK {q : Nat} (h : Kn K A T F n m ma mc w) (hq : q < n) :
    Calls Tryz.prog 163 #[aa K, .int .i64 q] w fun e w' => e = .returned (.bool (d8 T F m q)) ∧ Below w.heap.size w w' := by
 have hB := ae w (.cells #[aa K] 152)
 have Ab : Bk w.heap.size K (w.alloc (.cells #[aa K] 152)) := heap_alloc_new w _
 have hK := h.go hB
 obtain ⟨o, ho⟩ : ∃ o, d8 T F m q = o := ⟨_, rfl⟩
 rw [ho]
 have HO := hide ho
 clear h ho
 go_enter Tryz.func163, Tryz.ntmps163
 go_upto_region 1 with fail
 generalize w.alloc (.cells #[aa K] 152) = W at *
 obtain ⟨_, _, la, lc, eg, -, x0, -, Ae, Aa⟩ := bH hK.l0 (fU hq)
 cases eg
 rw [Nat.zero_add] at x0
 have k4 := hK.bx.get (i := 4) rfl
 have k5 := hK.bx.get (i := 5) rfl
 have f0 := hK.ff.get (se hq)
 have c1 := Ab.get (i := 0) rfl
 have C := hide (eN (c := lc) (ns hK Ab) Aa.at1 Ae (fun x hx => bN hx))
 have HB := hide hB
 unfold d8 at HO
 clear Ab hK Aa hB
 by_cases hf : (q : Int) ∈ F
 ·have HE : Hid (o = false) := hide (by rw [← HO.out, decide_eq_true hf]; rfl)
  rw [decide_eq_true hf] at f0
  clear hf C HO x0
  go_wp2_with fail
  go_ret
  exact ⟨by rw [HE.out]; rfl, HB.out⟩
 have HE : Hid ((ag T kS q).all (fun r => partB T m r 2) = o) := hide (by rw [← HO.out, decide_eq_false hf]; rfl)
 rw [decide_eq_false hf] at f0
 rw [HE.out] at C
 clear hf HO
 go_wp2_with (go_at_call 193; refine C.out.mono ?_; rintro _ w2 ⟨rfl, Ac⟩; have Ad := hide Ac; clear Ac)
 go_ret
 exact ⟨rfl, HB.out.trans (Ad.out.mono HB.out.size)⟩
end
end Go.Proofs.YtmlhcncagdfjfaaGreat
