import Derived.Test.YtmlhcncagdfjfaaGreatKc
set_option maxRecDepth 100000
set_option maxHeartbeats 6400000
namespace Go.Proofs.YtmlhcncagdfjfaaGreat
open Go.RowKit
abbrev S7 (wz : World) (p0 p1 p2 p3 p4 p5 p6 : Addr) (u0 u1 u2 u3 u4 u5 u6 : Value) (X : World) : Prop := X.cell? p0 = some u0 ∧ X.cell? p1 = some u1 ∧ X.cell? p2 = some u2 ∧ X.cell? p3 = some u3 ∧ X.cell? p4 = some u4 ∧ X.cell? p5 = some u5 ∧ X.cell? p6 = some u6 ∧ Below wz.heap.size wz X
section
variable {wz X Y : World} {p0 p1 p2 p3 p4 p5 p6 : Addr} {u0 u1 u2 u3 u4 u5 u6 : Value}
theorem S7.b (h : S7 wz p0 p1 p2 p3 p4 p5 p6 u0 u1 u2 u3 u4 u5 u6 X) : Below wz.heap.size wz X := h.2.2.2.2.2.2.2
theorem S7.drew (h : S7 wz p0 p1 p2 p3 p4 p5 p6 u0 u1 u2 u3 u4 u5 u6 X) : S7 wz p0 p1 p2 p3 p4 p5 p6 u0 u1 u2 u3 u4 u5 u6 X.drew := ⟨h.1, h.2.1, h.2.2.1, h.2.2.2.1, h.2.2.2.2.1, h.2.2.2.2.2.1, h.2.2.2.2.2.2.1, (h.2.2.2.2.2.2.2).drew⟩
theorem S7.below (h : S7 wz p0 p1 p2 p3 p4 p5 p6 u0 u1 u2 u3 u4 u5 u6 X) (hb : Below X.heap.size X Y) : S7 wz p0 p1 p2 p3 p4 p5 p6 u0 u1 u2 u3 u4 u5 u6 Y := ⟨ar (h.1) hb, ar (h.2.1) hb, ar (h.2.2.1) hb, ar (h.2.2.2.1) hb, ar (h.2.2.2.2.1) hb, ar (h.2.2.2.2.2.1) hb, ar (h.2.2.2.2.2.2.1) hb, (S7.b h).trans (hb.mono (S7.b h).size)⟩
end
section
variable {K n b b2 bs bu br bq q s : Nat} {A : Ka} {T : Th} {F m : List Int} {ma : Option Addr} {mc : Nat} {w w' : World} {p : Int → Bool} {v : Value}
theorem tr {x : Int} (h : Kn K A T F n m ma mc w) (hb : Bk b K w) (h2 : Bi bs s w) (h3 : Bf bu (.func (.func 196) #[] #[aa b]) w) (hx : aV T x) :
    Calls Tryz.prog 201 #[.int .i64 x, aa b, aa bs, aa bu] w fun e w' => e = .returned (.bool (beatB T x s && wholeB T m x 3)) ∧ Below w.heap.size w w' := by
 have CU : Hid (∀ X, Below w.heap.size w X → Calls Tryz.prog 196 #[.int .i64 x, aa b] X fun e w' => e = .returned (.bool (wholeB T m x 3)) ∧ Below X.heap.size X w') := hide fun X hX => gk (h.go hX) (hb.keep (hX.block _ hb.lt)) hx
 obtain ⟨Ae, Af⟩ := hx
 obtain ⟨r, rfl⟩ := Int.eq_ofNat_of_zero_le Ae
 have CB := hide (pB (s := s) h (by omega : r < T.rules.length))
 have c1 := hb.get (i := 0) rfl
 have c2 := h2.get (i := 0) rfl
 have c3 := h3.get (i := 0) rfl
 generalize wholeB T m r 3 = o at *
 generalize beatB T r s = o1 at *
 clear h hb h2 h3
 go_enter Tryz.func201, Tryz.ntmps201
 cases o1 with
 | true =>
  go_wp2_with (first | (go_at_call 202; refine CB.out.mono ?_; rintro _ w2 ⟨rfl, Aa⟩; have Ad := ar c3 Aa; have HB := hide Aa; clear Aa) | (go_at_call 196; refine (CU.out _ HB.out).mono ?_; rintro _ w3 ⟨rfl, Ab⟩; have Ac := hide Ab; clear Ab))
  go_ret
  exact ⟨by simp, HB.out.trans (Ac.out.mono HB.out.size)⟩
 | false =>
  go_wp2_with (first | (go_at_call 202; refine CB.out.mono ?_; rintro _ w2 ⟨rfl, Aa⟩; have Ad := ar c3 Aa; have HB := hide Aa; clear Aa))
  go_ret
  exact ⟨by simp, HB.out⟩
theorem wu (h : Kn K A T F n m ma mc w) (hb : Bk b K w) (h2 : Bi bs s w) (h3 : Bf bu (.func (.func 196) #[] #[aa b]) w) : Ts w (fun x => beatB T x s && wholeB T m x 3) (aV T) (.func (.func 201) #[] #[aa b, aa bs, aa bu]) :=
 ⟨_, _, rfl, enters_go Tryz.func201 (by kernel_rfl) (by kernel_rfl), fun x w' hx hw => tr (h.go hw) (hb.keep (hw.block _ hb.lt)) (h2.keep (hw.block _ h2.lt)) (h3.keep (hw.block _ h3.lt)) hx⟩
theorem sT {x : Int} (h : Kn K A T F n m ma mc w) (hb : Bk b K w) (h2 : Bi bs s w) (h3 : Bf br (.func (.func 204) #[] #[aa b]) w) (hx : aV T x) :
    Calls Tryz.prog 208 #[.int .i64 x, aa br, aa b, aa bs] w fun e w' => e = .returned (.bool (partB T m x 4 || !beatB T x s)) ∧ Below w.heap.size w w' := by
 have CU := hide (fR h hb hx)
 obtain ⟨Af, Ag⟩ := hx
 obtain ⟨r, rfl⟩ := Int.eq_ofNat_of_zero_le Af
 have CB : Hid (∀ X, Below w.heap.size w X → Calls Tryz.prog 202 #[aa K, .int .i64 r, .int .i64 s] X fun e w' => e = .returned (.bool (beatB T r s)) ∧ Below X.heap.size X w') := hide fun X hX => pB (s := s) (h.go hX) (by omega : r < T.rules.length)
 have c1 := hb.get (i := 0) rfl
 have c2 := h2.get (i := 0) rfl
 have c3 := h3.get (i := 0) rfl
 generalize partB T m r 4 = o at *
 generalize beatB T r s = o1 at *
 clear h hb h2 h3
 go_enter Tryz.func208, Tryz.ntmps208
 cases o with
 | true =>
  go_wp2_with (first | (go_at_call 204; refine CU.out.mono ?_; rintro _ w2 ⟨rfl, Aa⟩; have Ae := ar c1 Aa; have Ac := ar c2 Aa; have HB := hide Aa; clear Aa))
  go_ret
  exact ⟨by simp, HB.out⟩
 | false =>
  go_wp2_with (first | (go_at_call 204; refine CU.out.mono ?_; rintro _ w2 ⟨rfl, Aa⟩; have Ae := ar c1 Aa; have Ac := ar c2 Aa; have HB := hide Aa; clear Aa) | (go_at_call 202; refine (CB.out _ HB.out).mono ?_; rintro _ w3 ⟨rfl, Ab⟩; have Ad := hide Ab; clear Ab))
  go_ret
  exact ⟨by simp, HB.out.trans (Ad.out.mono HB.out.size)⟩
theorem uM (h : Kn K A T F n m ma mc w) (hb : Bk b K w) (h2 : Bi bs s w) (h3 : Bf br (.func (.func 204) #[] #[aa b]) w) : Ts w (fun x => partB T m x 4 || !beatB T x s) (aV T) (.func (.func 208) #[] #[aa br, aa b, aa bs]) :=
 ⟨_, _, rfl, enters_go Tryz.func208 (by kernel_rfl) (by kernel_rfl), fun x w' hx hw => sT (h.go hw) (hb.keep (hw.block _ hb.lt)) (h2.keep (hw.block _ h2.lt)) (h3.keep (hw.block _ h3.lt)) hx⟩
theorem vy {x : Int} (h : Kn K A T F n m ma mc w) (hb : Bk b K w) (hq : Bi bq q w) (hqn : q < n) (hu : Bf bu (.func (.func 196) #[] #[aa b]) w) (hr : Bf br (.func (.func 197) #[] #[aa b]) w) (hx : aV T x) :
    Calls Tryz.prog 200 #[.int .i64 x, aa br, aa b, aa bq, aa bu] w fun e w' => e = .returned (.bool (iK T m q x)) ∧ Below w.heap.size w w' := by
 obtain ⟨Ah, Ai⟩ := hx
 obtain ⟨s, rfl⟩ := Int.eq_ofNat_of_zero_le Ah
 have hB := ae w (.cells #[.int .i64 s] 3)
 have hS : Bi w.heap.size s (w.alloc (.cells #[.int .i64 s] 3)) := heap_alloc_new w _
 have hK := h.go hB
 have Ab := hb.keep (hB.block _ hb.lt)
 have Ae := hq.keep (hB.block _ hq.lt)
 have Ad := hu.keep (hB.block _ hu.lt)
 have Af := hr.keep (hB.block _ hr.lt)
 obtain ⟨o, ho⟩ : ∃ o, iK T m q s = o := ⟨_, rfl⟩
 rw [ho]
 unfold iK at ho
 have HO := hide ho
 clear h ho hb hq hu hr
 go_enter Tryz.func200, Tryz.ntmps200
 go_upto_region 1 with fail
 generalize w.alloc (.cells #[.int .i64 s] 3) = W at *
 obtain ⟨_, _, la, lc, eg, -, x0, -, Aj, Ac⟩ := bH hK.l1 (fU hqn)
 cases eg
 rw [Nat.zero_add] at x0
 have k6 := hK.bx.get (i := 6) rfl
 have c1 := Ab.get (i := 0) rfl
 have c2 := hS.get (i := 0) rfl
 have c3 := Ae.get (i := 0) rfl
 have c4 := Af.get (i := 0) rfl
 have CU : Hid (∀ X, Below W.heap.size W X → Calls Tryz.prog 197 #[.int .i64 s, aa b] X fun e w' => e = .returned (.bool (partB T m s 4)) ∧ Below X.heap.size X w') := hide fun X hX => ku (hK.go hX) (Ab.keep (hX.block _ Ab.lt)) ⟨Ah, Ai⟩
 have Ag := hide (wu hK Ab hS Ad)
 have C : Hid (∀ X, Below W.heap.size W X → Calls Tryz.prog 190 #[.slice la (ag T kT q).length lc, .func (.func 201) #[] #[aa b, aa w.heap.size, aa bu]] X fun e w' => e = .returned (.bool ((ag T kT q).any (fun t => beatB T t s && wholeB T m t 3))) ∧ Below X.heap.size X w') := hide fun X hX => fB (c := lc) (Ag.out.go hX) (Ac.at1.below hX) Aj (fun x hx => bN hx)
 have HB := hide hB
 have HT : S6 W ⟨br, 0, none⟩ ⟨w.heap.size, 0, none⟩ ⟨b, 0, none⟩ ⟨K, 6, none⟩ ⟨bq, 0, none⟩ ⟨A.s1, q, none⟩ (.func (.func 197) #[] #[aa b]) (.int .i64 s) (aa K) (.slice (some ⟨A.s1, 0, none⟩) n n) (.int .i64 q) (.slice la (ag T kT q).length lc) W := ⟨c4, c2, c1, k6, c3, x0, Below.refl _ _⟩
 clear Ab Ae Ad Af hK hS Ac hB Ag
 generalize partB T m s 4 = o1 at *
 cases o1 with
 | true =>
  have HE : Hid (o = true) := hide (by rw [← HO.out]; rfl)
  clear C HO
  refine wp_region_held_drew (S := fun X : World => S6 W ⟨br, 0, none⟩ ⟨w.heap.size, 0, none⟩ ⟨b, 0, none⟩ ⟨K, 6, none⟩ ⟨bq, 0, none⟩ ⟨A.s1, q, none⟩ (.func (.func 197) #[] #[aa b]) (.int .i64 s) (aa K) (.slice (some ⟨A.s1, 0, none⟩) n n) (.int .i64 q) (.slice la (ag T kT q).length lc) X) (by kernel_rfl) (S6.drew HT) (fun hHeld => ?_)
  refine tk 0 (v := ?_) rfl (by kernel_rfl) (fun _ _ _ h => h) (Or.inl ⟨by rfl, ?_⟩) (by assumption) ?_
  rotate_left
  ·intro w Aa; (try dsimp only at Aa); first | go_simp; done | go_simp; with_reducible rfl
  try simp only [ql]
  refine tk 1 (v := ?_) rfl (by kernel_rfl) (fun _ _ _ h => h) (Or.inl ⟨by rfl, ?_⟩) (by assumption) ?_
  rotate_left
  ·intro w Aa; (try dsimp only at Aa); first | go_simp; done | go_simp; with_reducible rfl
  try simp only [ql]
  refine wpAnyH_ready (rs := [2]) (by kernel_rfl) (by simp) ?_
  refine AllReadyH.cons rfl (fun KK hKK => ?_) AllReadyH.nil
  go_simp
  go_at_call 197
  refine (CU.out _ (S6.b ‹_›)).mono ?_
  rintro e w' ⟨rfl, hb⟩
  dsimp only
  refine hKK.out _ _ (S6.below ‹_› hb) (fun hHeld2 => ?_)
  clear hKK KK hHeld
  try simp only [ql]
  refine tk 3 (v := ?_) rfl (by kernel_rfl) (fun _ _ _ h => h) (Or.inl ⟨by rfl, ?_⟩) (by assumption) ?_
  rotate_left
  ·intro w Aa; (try dsimp only at Aa); first | go_simp; done | go_simp; with_reducible rfl
  try simp only [ql]
  refine wpAnyH_take (i := 4) (v := undef) rfl (by kernel_rfl) (by kernel_rfl) (by kernel_rfl) (fun _ _ _ h => h) (Or.inr ⟨by rfl, rfl⟩) (by assumption) ?_
  try simp only [ql]
  refine wpAnyH_take (i := 5) (v := undef) rfl (by kernel_rfl) (by kernel_rfl) (by kernel_rfl) (fun _ _ _ h => h) (Or.inr ⟨by rfl, rfl⟩) (by assumption) ?_
  try simp only [ql]
  refine wpAnyH_take (i := 6) (v := undef) rfl (by kernel_rfl) (by kernel_rfl) (by kernel_rfl) (fun _ _ _ h => h) (Or.inr ⟨by rfl, rfl⟩) (by assumption) ?_
  try simp only [ql]
  refine wpAnyH_take (i := 7) (v := undef) rfl (by kernel_rfl) (by kernel_rfl) (by kernel_rfl) (fun _ _ _ h => h) (Or.inr ⟨by rfl, rfl⟩) (by assumption) ?_
  try simp only [ql]
  refine wpAnyH_take (i := 8) (v := undef) rfl (by kernel_rfl) (by kernel_rfl) (by kernel_rfl) (fun _ _ _ h => h) (Or.inr ⟨by rfl, rfl⟩) (by assumption) ?_
  try simp only [ql]
  refine wpAnyH_take (i := 9) (v := undef) rfl (by kernel_rfl) (by kernel_rfl) (by kernel_rfl) (fun _ _ _ h => h) (Or.inr ⟨by rfl, rfl⟩) (by assumption) ?_
  try simp only [ql]
  refine wpAnyH_take (i := 10) (v := undef) rfl (by kernel_rfl) (by kernel_rfl) (by kernel_rfl) (fun _ _ _ h => h) (Or.inr ⟨by rfl, rfl⟩) (by assumption) ?_
  try simp only [ql]
  refine wpAnyH_take (i := 11) (v := undef) rfl (by kernel_rfl) (by kernel_rfl) (by kernel_rfl) (fun _ _ _ h => h) (Or.inr ⟨by rfl, rfl⟩) (by assumption) ?_
  try simp only [ql]
  refine wpAnyH_take (i := 12) (v := undef) rfl (by kernel_rfl) (by kernel_rfl) (by kernel_rfl) (fun _ _ _ h => h) (Or.inr ⟨by rfl, rfl⟩) (by assumption) ?_
  try simp only [ql]
  refine tk 13 (v := ?_) rfl (by kernel_rfl) (fun _ _ _ h => h) (Or.inl ⟨by rfl, ?_⟩) (by assumption) ?_
  rotate_left
  ·intro w Aa; (try dsimp only at Aa); first | go_simp; done | go_simp; with_reducible rfl
  try simp only [ql]
  refine tk 14 (v := ?_) rfl (by kernel_rfl) (fun _ _ _ h => h) (Or.inl ⟨by rfl, ?_⟩) (by assumption) ?_
  rotate_left
  ·intro w Aa; (try dsimp only at Aa); first | go_simp; done | go_simp; with_reducible rfl
  try simp only [ql]
  refine wpAnyH_done (by kernel_rfl) ?_ _
  go_wp2_with fail
  go_ret
  exact ⟨by rw [HE.out]; rfl, HB.out.trans ((S6.b hHeld2).mono HB.out.size)⟩
 | false =>
  have HE : Hid ((ag T kT q).any (fun t => beatB T t s && wholeB T m t 3) = o) := hide (by rw [← HO.out]; rfl)
  rw [HE.out] at C
  clear HO
  go_region_held3 (fun X : World => S6 W ⟨br, 0, none⟩ ⟨w.heap.size, 0, none⟩ ⟨b, 0, none⟩ ⟨K, 6, none⟩ ⟨bq, 0, none⟩ ⟨A.s1, q, none⟩ (.func (.func 197) #[] #[aa b]) (.int .i64 s) (aa K) (.slice (some ⟨A.s1, 0, none⟩) n n) (.int .i64 q) (.slice la (ag T kT q).length lc) X) (first | exact S6.drew ‹_› | assumption | exact S6.below ‹_› ‹_›) (first | (go_at_call 197; refine (CU.out _ (S6.b ‹_›)).mono ?_; rintro e w' ⟨rfl, hb⟩) | (go_at_call 190; refine (C.out _ (S6.b ‹_›)).mono ?_; rintro e w' ⟨rfl, hb⟩))
  rename_i hS4
  go_wp2_with fail
  go_ret
  exact ⟨by simp, HB.out.trans ((S6.b hS4).mono HB.out.size)⟩
theorem yk (h : Kn K A T F n m ma mc w) (hb : Bk b K w) (hq : Bi bq q w) (hqn : q < n) (hu : Bf bu (.func (.func 196) #[] #[aa b]) w) (hr : Bf br (.func (.func 197) #[] #[aa b]) w) : Ts w (fun x => iK T m q x) (aV T) (.func (.func 200) #[] #[aa br, aa b, aa bq, aa bu]) :=
 ⟨_, _, rfl, enters_go Tryz.func200 (by kernel_rfl) (by kernel_rfl), fun x w' hx hw => vy (h.go hw) (hb.keep (hw.block _ hb.lt)) (hq.keep (hw.block _ hq.lt)) hqn (hu.keep (hw.block _ hu.lt)) (hr.keep (hw.block _ hr.lt)) hx⟩
theorem uZ {x : Int} (h : Kn K A T F n m ma mc w) (hb : Bk b K w) (hq : Bi bq q w) (hqn : q < n) (hu : Bf bu (.func (.func 203) #[] #[aa b]) w) (hr : Bf br (.func (.func 204) #[] #[aa b]) w) (hx : aV T x) :
    Calls Tryz.prog 207 #[.int .i64 x, aa bu, aa b, aa bq, aa br] w fun e w' => e = .returned (.bool (il T m q x)) ∧ Below w.heap.size w w' := by
 obtain ⟨Ah, Ai⟩ := hx
 obtain ⟨s, rfl⟩ := Int.eq_ofNat_of_zero_le Ah
 have hB := ae w (.cells #[.int .i64 s] 3)
 have hS : Bi w.heap.size s (w.alloc (.cells #[.int .i64 s] 3)) := heap_alloc_new w _
 have hK := h.go hB
 have Ab := hb.keep (hB.block _ hb.lt)
 have Ae := hq.keep (hB.block _ hq.lt)
 have Ad := hu.keep (hB.block _ hu.lt)
 have Af := hr.keep (hB.block _ hr.lt)
 obtain ⟨o, ho⟩ : ∃ o, il T m q s = o := ⟨_, rfl⟩
 rw [ho]
 unfold il at ho
 have HO := hide ho
 clear h ho hb hq hu hr
 go_enter Tryz.func207, Tryz.ntmps207
 go_upto_region 1 with fail
 generalize w.alloc (.cells #[.int .i64 s] 3) = W at *
 obtain ⟨_, _, la, lc, eg, -, x0, -, Aj, Ac⟩ := bH hK.l1 (fU hqn)
 cases eg
 rw [Nat.zero_add] at x0
 have k6 := hK.bx.get (i := 6) rfl
 have c1 := Ab.get (i := 0) rfl
 have c2 := hS.get (i := 0) rfl
 have c3 := Ae.get (i := 0) rfl
 have c4 := Ad.get (i := 0) rfl
 have CU : Hid (∀ X, Below W.heap.size W X → Calls Tryz.prog 203 #[.int .i64 s, aa b] X fun e w' => e = .returned (.bool (wholeB T m s 3)) ∧ Below X.heap.size X w') := hide fun X hX => jI (hK.go hX) (Ab.keep (hX.block _ Ab.lt)) ⟨Ah, Ai⟩
 have Ag := hide (uM hK Ab hS Af)
 have C : Hid (∀ X, Below W.heap.size W X → Calls Tryz.prog 193 #[.slice la (ag T kT q).length lc, .func (.func 208) #[] #[aa br, aa b, aa w.heap.size]] X fun e w' => e = .returned (.bool ((ag T kT q).all (fun t => partB T m t 4 || !beatB T t s))) ∧ Below X.heap.size X w') := hide fun X hX => eN (c := lc) (Ag.out.go hX) (Ac.at1.below hX) Aj (fun x hx => bN hx)
 have HB := hide hB
 have HT : S6 W ⟨bu, 0, none⟩ ⟨w.heap.size, 0, none⟩ ⟨b, 0, none⟩ ⟨K, 6, none⟩ ⟨bq, 0, none⟩ ⟨A.s1, q, none⟩ (.func (.func 203) #[] #[aa b]) (.int .i64 s) (aa K) (.slice (some ⟨A.s1, 0, none⟩) n n) (.int .i64 q) (.slice la (ag T kT q).length lc) W := ⟨c4, c2, c1, k6, c3, x0, Below.refl _ _⟩
 clear Ab Ae Ad Af hK hS Ac hB Ag
 generalize wholeB T m s 3 = o1 at *
 cases o1 with
 | false =>
  have HE : Hid (o = false) := hide (by rw [← HO.out]; rfl)
  clear C HO
  refine wp_region_held_drew (S := fun X : World => S6 W ⟨bu, 0, none⟩ ⟨w.heap.size, 0, none⟩ ⟨b, 0, none⟩ ⟨K, 6, none⟩ ⟨bq, 0, none⟩ ⟨A.s1, q, none⟩ (.func (.func 203) #[] #[aa b]) (.int .i64 s) (aa K) (.slice (some ⟨A.s1, 0, none⟩) n n) (.int .i64 q) (.slice la (ag T kT q).length lc) X) (by kernel_rfl) (S6.drew HT) (fun hHeld => ?_)
  refine tk 0 (v := ?_) rfl (by kernel_rfl) (fun _ _ _ h => h) (Or.inl ⟨by rfl, ?_⟩) (by assumption) ?_
  rotate_left
  ·intro w Aa; (try dsimp only at Aa); first | go_simp; done | go_simp; with_reducible rfl
  try simp only [ql]
  refine tk 1 (v := ?_) rfl (by kernel_rfl) (fun _ _ _ h => h) (Or.inl ⟨by rfl, ?_⟩) (by assumption) ?_
  rotate_left
  ·intro w Aa; (try dsimp only at Aa); first | go_simp; done | go_simp; with_reducible rfl
  try simp only [ql]
  refine wpAnyH_ready (rs := [2]) (by kernel_rfl) (by simp) ?_
  refine AllReadyH.cons rfl (fun KK hKK => ?_) AllReadyH.nil
  go_simp
  go_at_call 203
  refine (CU.out _ (S6.b ‹_›)).mono ?_
  rintro e w' ⟨rfl, hb⟩
  dsimp only
  refine hKK.out _ _ (S6.below ‹_› hb) (fun hHeld2 => ?_)
  clear hKK KK hHeld
  try simp only [ql]
  refine tk 3 (v := ?_) rfl (by kernel_rfl) (fun _ _ _ h => h) (Or.inl ⟨by rfl, ?_⟩) (by assumption) ?_
  rotate_left
  ·intro w Aa; (try dsimp only at Aa); first | go_simp; done | go_simp; with_reducible rfl
  try simp only [ql]
  refine wpAnyH_take (i := 4) (v := undef) rfl (by kernel_rfl) (by kernel_rfl) (by kernel_rfl) (fun _ _ _ h => h) (Or.inr ⟨by rfl, rfl⟩) (by assumption) ?_
  try simp only [ql]
  refine wpAnyH_take (i := 5) (v := undef) rfl (by kernel_rfl) (by kernel_rfl) (by kernel_rfl) (fun _ _ _ h => h) (Or.inr ⟨by rfl, rfl⟩) (by assumption) ?_
  try simp only [ql]
  refine wpAnyH_take (i := 6) (v := undef) rfl (by kernel_rfl) (by kernel_rfl) (by kernel_rfl) (fun _ _ _ h => h) (Or.inr ⟨by rfl, rfl⟩) (by assumption) ?_
  try simp only [ql]
  refine wpAnyH_take (i := 7) (v := undef) rfl (by kernel_rfl) (by kernel_rfl) (by kernel_rfl) (fun _ _ _ h => h) (Or.inr ⟨by rfl, rfl⟩) (by assumption) ?_
  try simp only [ql]
  refine wpAnyH_take (i := 8) (v := undef) rfl (by kernel_rfl) (by kernel_rfl) (by kernel_rfl) (fun _ _ _ h => h) (Or.inr ⟨by rfl, rfl⟩) (by assumption) ?_
  try simp only [ql]
  refine wpAnyH_take (i := 9) (v := undef) rfl (by kernel_rfl) (by kernel_rfl) (by kernel_rfl) (fun _ _ _ h => h) (Or.inr ⟨by rfl, rfl⟩) (by assumption) ?_
  try simp only [ql]
  refine wpAnyH_take (i := 10) (v := undef) rfl (by kernel_rfl) (by kernel_rfl) (by kernel_rfl) (fun _ _ _ h => h) (Or.inr ⟨by rfl, rfl⟩) (by assumption) ?_
  try simp only [ql]
  refine wpAnyH_take (i := 11) (v := undef) rfl (by kernel_rfl) (by kernel_rfl) (by kernel_rfl) (fun _ _ _ h => h) (Or.inr ⟨by rfl, rfl⟩) (by assumption) ?_
  try simp only [ql]
  refine wpAnyH_take (i := 12) (v := undef) rfl (by kernel_rfl) (by kernel_rfl) (by kernel_rfl) (fun _ _ _ h => h) (Or.inr ⟨by rfl, rfl⟩) (by assumption) ?_
  try simp only [ql]
  refine tk 13 (v := ?_) rfl (by kernel_rfl) (fun _ _ _ h => h) (Or.inl ⟨by rfl, ?_⟩) (by assumption) ?_
  rotate_left
  ·intro w Aa; (try dsimp only at Aa); first | go_simp; done | go_simp; with_reducible rfl
  try simp only [ql]
  refine tk 14 (v := ?_) rfl (by kernel_rfl) (fun _ _ _ h => h) (Or.inl ⟨by rfl, ?_⟩) (by assumption) ?_
  rotate_left
  ·intro w Aa; (try dsimp only at Aa); first | go_simp; done | go_simp; with_reducible rfl
  try simp only [ql]
  refine wpAnyH_done (by kernel_rfl) ?_ _
  go_wp2_with fail
  go_ret
  exact ⟨by rw [HE.out]; rfl, HB.out.trans ((S6.b hHeld2).mono HB.out.size)⟩
 | true =>
  have HE : Hid ((ag T kT q).all (fun t => partB T m t 4 || !beatB T t s) = o) := hide (by rw [← HO.out]; rfl)
  rw [HE.out] at C
  clear HO
  go_region_held3 (fun X : World => S6 W ⟨bu, 0, none⟩ ⟨w.heap.size, 0, none⟩ ⟨b, 0, none⟩ ⟨K, 6, none⟩ ⟨bq, 0, none⟩ ⟨A.s1, q, none⟩ (.func (.func 203) #[] #[aa b]) (.int .i64 s) (aa K) (.slice (some ⟨A.s1, 0, none⟩) n n) (.int .i64 q) (.slice la (ag T kT q).length lc) X) (first | exact S6.drew ‹_› | assumption | exact S6.below ‹_› ‹_›) (first | (go_at_call 203; refine (CU.out _ (S6.b ‹_›)).mono ?_; rintro e w' ⟨rfl, hb⟩) | (go_at_call 193; refine (C.out _ (S6.b ‹_›)).mono ?_; rintro e w' ⟨rfl, hb⟩))
  rename_i hS4
  go_wp2_with fail
  go_ret
  exact ⟨by simp, HB.out.trans ((S6.b hS4).mono HB.out.size)⟩
theorem xW (h : Kn K A T F n m ma mc w) (hb : Bk b K w) (hq : Bi bq q w) (hqn : q < n) (hu : Bf bu (.func (.func 203) #[] #[aa b]) w) (hr : Bf br (.func (.func 204) #[] #[aa b]) w) : Ts w (fun x => il T m q x) (aV T) (.func (.func 207) #[] #[aa bu, aa b, aa bq, aa br]) :=
 ⟨_, _, rfl, enters_go Tryz.func207 (by kernel_rfl) (by kernel_rfl), fun x w' hx hw => uZ (h.go hw) (hb.keep (hw.block _ hb.lt)) (hq.keep (hw.block _ hq.lt)) hqn (hu.keep (hw.block _ hu.lt)) (hr.keep (hw.block _ hr.lt)) hx⟩
end
end Go.Proofs.YtmlhcncagdfjfaaGreat
