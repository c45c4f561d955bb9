import Derived.Test.YtmlhcncagdfjfaaGreatKd
import Derived.Laws.EntriesVeiled
set_option maxRecDepth 100000
set_option maxHeartbeats 6400000
namespace Go.Proofs.YtmlhcncagdfjfaaGreat
open Go.RowKit
section
variable {K n q : Nat} {A : Ka} {T : Th} {F m : List Int} {ma : Option Addr} {mc : Nat} {w w' : World}
theorem kR (h : Kn K A T F n m ma mc w) (hq : q < n) :
    Calls Tryz.prog 164 #[aa K, .int .i64 q] w fun e w' => e = .returned (.bool (plusD T m q)) ∧ Below w.heap.size w w' := by
 have Am := ae w (.cells #[aa K] 152)
 have As := ae (w.alloc (.cells #[aa K] 152)) (.cells #[.int .i64 q] 3)
 have hB : Below w.heap.size w ((w.alloc (.cells #[aa K] 152)).alloc (.cells #[.int .i64 q] 3)) := Am.trans (As.mono Am.size)
 have Ar : Bk w.heap.size K ((w.alloc (.cells #[aa K] 152)).alloc (.cells #[.int .i64 q] 3)) := (As.block _ (by simp)).trans (heap_alloc_new w _)
 have An : Bi (w.heap.size + 1) q ((w.alloc (.cells #[aa K] 152)).alloc (.cells #[.int .i64 q] 3)) := by
  have := heap_alloc_new (w.alloc (.cells #[aa K] 152)) (.cells #[.int .i64 q] 3)
  simpa [Fx] using this
 have hK := h.go hB
 obtain ⟨o, ho⟩ : ∃ o, plusD T m q = o := ⟨_, rfl⟩
 rw [ho]
 unfold plusD at ho
 have HO := hide ho
 clear h ho Am As
 go_enter Tryz.func164, Tryz.ntmps164
 go_upto_region 1 with fail
 generalize (w.alloc (.cells #[aa K] 152)).alloc (.cells #[.int .i64 q] 3) = W at *
 have CH := hide (has_kn hK hq (.inl rfl) : Calls Tryz.prog 136 #[aa K, .int .i64 q, .int .i64 1] W _)
 have c1 := Ar.get (i := 0) rfl
 have c2 := An.get (i := 0) rfl
 have HB := hide hB
 have HK := hide hK
 have Ah := hide Ar
 have Aj := hide An
 clear hB hK Ar An
 generalize hs m q 1 = o1 at *
 cases o1 with
 | true =>
  have HE : Hid (o = true) := hide (by rw [← HO.out]; rfl)
  go_wp2_with (go_at_call 136; refine CH.out.mono ?_; rintro _ w2 ⟨rfl, Ad⟩; have Ac := hide Ad; clear Ad)
  go_ret
  exact ⟨by rw [HE.out]; rfl, HB.out.trans (Ac.out.mono HB.out.size)⟩
 | false =>
  go_upto_region 3 with (go_at_call 136; refine CH.out.mono ?_; rintro _ w2 ⟨rfl, Ad⟩; have Ac := hide Ad; have Ax := ar c1 Ad; have Aw := ar c2 Ad; clear Ad)
  clear c1 c2
  go_upto_region 5 with fail
  have Ap := ae w2 (.cells #[.func (.func 196) #[] #[aa w.heap.size]] 172)
  have Aq := ae (w2.alloc (.cells #[.func (.func 196) #[] #[aa w.heap.size]] 172)) (.cells #[.func (.func 197) #[] #[aa w.heap.size]] 172)
  have Ai : Below w2.heap.size w2 ((w2.alloc (.cells #[.func (.func 196) #[] #[aa w.heap.size]] 172)).alloc (.cells #[.func (.func 197) #[] #[aa w.heap.size]] 172)) := Ap.trans (Aq.mono Ap.size)
  have hU : Bf w2.heap.size (.func (.func 196) #[] #[aa w.heap.size]) ((w2.alloc (.cells #[.func (.func 196) #[] #[aa w.heap.size]] 172)).alloc (.cells #[.func (.func 197) #[] #[aa w.heap.size]] 172)) := (Aq.block _ (by simp)).trans (heap_alloc_new w2 _)
  have hR : Bf (w2.heap.size + 1) (.func (.func 197) #[] #[aa w.heap.size]) ((w2.alloc (.cells #[.func (.func 196) #[] #[aa w.heap.size]] 172)).alloc (.cells #[.func (.func 197) #[] #[aa w.heap.size]] 172)) := by
   have := heap_alloc_new (w2.alloc (.cells #[.func (.func 196) #[] #[aa w.heap.size]] 172)) (.cells #[.func (.func 197) #[] #[aa w.heap.size]] 172)
   simpa [Fx] using this
  have Ab := (HK.out.go Ac.out).go Ai
  have Ao := (Aj.out.keep (Ac.out.block _ Aj.out.lt)).keep (Ai.block _ (Aj.out.keep (Ac.out.block _ Aj.out.lt)).lt)
  have Af := (Ah.out.keep (Ac.out.block _ Ah.out.lt)).keep (Ai.block _ (Ah.out.keep (Ac.out.block _ Ah.out.lt)).lt)
  have Ae := hide (HB.out.trans ((Ac.out.trans (Ai.mono Ac.out.size)).mono HB.out.size))
  clear Ap Aq Ai Ax Aw CH
  generalize (w2.alloc (.cells #[.func (.func 196) #[] #[aa w.heap.size]] 172)).alloc (.cells #[.func (.func 197) #[] #[aa w.heap.size]] 172) = W4 at *
  obtain ⟨_, _, la, lc, eg, -, x0, -, Av, Al⟩ := bH Ab.l1 (fU hq)
  cases eg
  rw [Nat.zero_add] at x0
  obtain ⟨l, hl⟩ := am (l := T.foes) (i := q) (by have := Ab.pf.ok.fl; have := Ab.pf.ln; omega)
  have Ay : q < T.foes.length := (List.getElem?_eq_some_iff.1 hl).1
  obtain ⟨gr, go, bd, bp, At, -, x1, -, Au, Ag⟩ := bH Ab.ta.foes hl
  have k1 := Ab.bx.get (i := 1) rfl
  rw [At] at k1
  have k6 := Ab.bx.get (i := 6) rfl
  have d1 := Af.get (i := 0) rfl
  have d2 := Ao.get (i := 0) rfl
  have d3 := hU.get (i := 0) rfl
  have er : row T.foes (q : Int) = l := bn (by rw [Int.toNat_natCast]; exact hl)
  have Ak := Ab.pf.foe q hq
  rw [er] at Ak HO
  have CA : Hid (∀ X, Below W4.heap.size W4 X → Calls Tryz.prog 190 #[.slice la (ag T kT q).length lc, .func (.func 196) #[] #[aa w.heap.size]] X fun e w' => e = .returned (.bool ((ag T kT q).any fun r => wholeB T m r 3)) ∧ Below X.heap.size X w') := hide fun X hX => fB (c := lc) ((lj Ab Af).go hX) (Al.at1.below hX) Av (fun x hx => bN hx)
  have CB : Hid (∀ X, Below W4.heap.size W4 X → Calls Tryz.prog 193 #[.slice bd l.length bp, .func (.func 198) #[] #[aa w.heap.size]] X fun e w' => e = .returned (.bool (l.all fun f => hs m f 2)) ∧ Below X.heap.size X w') := hide fun X hX => eN (c := bp) ((lw Ab Af).go hX) (Ag.at1.below hX) Au Ak
  have CC : Hid (∀ X, Below W4.heap.size W4 X → Calls Tryz.prog 199 #[aa K, .int .i64 q, .func (.func 200) #[] #[aa (w2.heap.size + 1), aa w.heap.size, aa (w.heap.size + 1), aa w2.heap.size]] X fun e w' => e = .returned (.bool (l.all fun f => (ag T kA f).all fun s => iK T m q s)) ∧ Below X.heap.size X w') := hide fun X hX => by
   have := l5 (Ab.go hX) hq ((yk Ab Af Ao hq hU hR).go hX)
   rw [er] at this
   exact this
  have HT : S7 W4 ⟨w.heap.size, 0, none⟩ ⟨K, 6, none⟩ ⟨w.heap.size + 1, 0, none⟩ ⟨A.s1, q, none⟩ ⟨w2.heap.size, 0, none⟩ ⟨K, 1, none⟩ ⟨gr, go + q, none⟩ (aa K) (.slice (some ⟨A.s1, 0, none⟩) n n) (.int .i64 q) (.slice la (ag T kT q).length lc) (.func (.func 196) #[] #[aa w.heap.size]) (.slice (some ⟨gr, go, none⟩) T.foes.length A.fc) (.slice bd l.length bp) W4 := ⟨d1, k6, d2, x0, d3, k1, x1, Below.refl _ _⟩
  clear Ab Af Ao hU hR Al Ag hl At er Ak HK Ah Aj HB Ac
  generalize ((ag T kT q).any fun r => wholeB T m r 3) = oA at *
  generalize (l.all fun f => hs m f 2) = oB at *
  generalize (l.all fun f => (ag T kA f).all fun s => iK T m q s) = oC at *
  cases oA with
  | false =>
   have HE : Hid (o = false) := hide (by rw [← HO.out]; rfl)
   clear CB CC HO
   refine wp_region_held_drew (S := fun X : World => S7 W4 ⟨w.heap.size, 0, none⟩ ⟨K, 6, none⟩ ⟨w.heap.size + 1, 0, none⟩ ⟨A.s1, q, none⟩ ⟨w2.heap.size, 0, none⟩ ⟨K, 1, none⟩ ⟨gr, go + q, none⟩ (aa K) (.slice (some ⟨A.s1, 0, none⟩) n n) (.int .i64 q) (.slice la (ag T kT q).length lc) (.func (.func 196) #[] #[aa w.heap.size]) (.slice (some ⟨gr, go, none⟩) T.foes.length A.fc) (.slice bd l.length bp) X) (by kernel_rfl) (S7.drew HT) (fun hHeld => ?_)
   refine tk 0 (v := ?_) rfl (by kernel_rfl) (fun _ _ _ h => h) (Or.inl ⟨by rfl, ?_⟩) (by assumption) ?_
   rotate_left
   ·intro w Aa; (try dsimp only at Aa); first | go_simp; done | go_simp; with_reducible rfl
   try simp only [ql]
   refine tk 1 (v := ?_) rfl (by kernel_rfl) (fun _ _ _ h => h) (Or.inl ⟨by rfl, ?_⟩) (by assumption) ?_
   rotate_left
   ·intro w Aa; (try dsimp only at Aa); first | go_simp; done | go_simp; with_reducible rfl
   try simp only [ql]
   refine tk 2 (v := ?_) rfl (by kernel_rfl) (fun _ _ _ h => h) (Or.inl ⟨by rfl, ?_⟩) (by assumption) ?_
   rotate_left
   ·intro w Aa; (try dsimp only at Aa); first | go_simp; done | go_simp; with_reducible rfl
   try simp only [ql]
   refine tk 3 (v := ?_) rfl (by kernel_rfl) (fun _ _ _ h => h) (Or.inl ⟨by rfl, ?_⟩) (by assumption) ?_
   rotate_left
   ·intro w Aa; (try dsimp only at Aa); first | go_simp; done | go_simp; with_reducible rfl
   try simp only [ql]
   refine tk 4 (v := ?_) rfl (by kernel_rfl) (fun _ _ _ h => h) (Or.inl ⟨by rfl, ?_⟩) (by assumption) ?_
   rotate_left
   ·intro w Aa; (try dsimp only at Aa); first | go_simp; done | go_simp; with_reducible rfl
   try simp only [ql]
   refine tk 5 (v := ?_) rfl (by kernel_rfl) (fun _ _ _ h => h) (Or.inl ⟨by rfl, ?_⟩) (by assumption) ?_
   rotate_left
   ·intro w Aa; (try dsimp only at Aa); first | go_simp; done | go_simp; with_reducible rfl
   try simp only [ql]
   refine tk 6 (v := ?_) rfl (by kernel_rfl) (fun _ _ _ h => h) (Or.inl ⟨by rfl, ?_⟩) (by assumption) ?_
   rotate_left
   ·intro w Aa; (try dsimp only at Aa); first | go_simp; done | go_simp; with_reducible rfl
   try simp only [ql]
   refine tk 7 (v := ?_) rfl (by kernel_rfl) (fun _ _ _ h => h) (Or.inl ⟨by rfl, ?_⟩) (by assumption) ?_
   rotate_left
   ·intro w Aa; (try dsimp only at Aa); first | go_simp; done | go_simp; with_reducible rfl
   try simp only [ql]
   refine wpAnyH_ready (rs := [8]) (by kernel_rfl) (by simp) ?_
   refine AllReadyH.cons rfl (fun KK hKK => ?_) AllReadyH.nil
   go_simp
   go_at_call 190
   refine (CA.out _ (S7.b ‹_›)).mono ?_
   rintro e w' ⟨rfl, hb⟩
   dsimp only
   refine hKK.out _ _ (S7.below ‹_› hb) (fun hHeld2 => ?_)
   clear hKK KK hHeld
   try simp only [ql]
   refine tk 9 (v := ?_) rfl (by kernel_rfl) (fun _ _ _ h => h) (Or.inl ⟨by rfl, ?_⟩) (by assumption) ?_
   rotate_left
   ·intro w Aa; (try dsimp only at Aa); first | go_simp; done | go_simp; with_reducible rfl
   try simp only [ql]
   refine wpAnyH_take (i := 10) (v := undef) rfl (by kernel_rfl) (by kernel_rfl) (by kernel_rfl) (fun _ _ _ h => h) (Or.inr ⟨by rfl, rfl⟩) (by assumption) ?_
   try simp only [ql]
   refine wpAnyH_take (i := 11) (v := undef) rfl (by kernel_rfl) (by kernel_rfl) (by kernel_rfl) (fun _ _ _ h => h) (Or.inr ⟨by rfl, rfl⟩) (by assumption) ?_
   try simp only [ql]
   refine wpAnyH_take (i := 12) (v := undef) rfl (by kernel_rfl) (by kernel_rfl) (by kernel_rfl) (fun _ _ _ h => h) (Or.inr ⟨by rfl, rfl⟩) (by assumption) ?_
   try simp only [ql]
   refine wpAnyH_take (i := 13) (v := undef) rfl (by kernel_rfl) (by kernel_rfl) (by kernel_rfl) (fun _ _ _ h => h) (Or.inr ⟨by rfl, rfl⟩) (by assumption) ?_
   try simp only [ql]
   refine wpAnyH_take (i := 14) (v := undef) rfl (by kernel_rfl) (by kernel_rfl) (by kernel_rfl) (fun _ _ _ h => h) (Or.inr ⟨by rfl, rfl⟩) (by assumption) ?_
   try simp only [ql]
   refine wpAnyH_take (i := 15) (v := undef) rfl (by kernel_rfl) (by kernel_rfl) (by kernel_rfl) (fun _ _ _ h => h) (Or.inr ⟨by rfl, rfl⟩) (by assumption) ?_
   try simp only [ql]
   refine wpAnyH_take (i := 16) (v := undef) rfl (by kernel_rfl) (by kernel_rfl) (by kernel_rfl) (fun _ _ _ h => h) (Or.inr ⟨by rfl, rfl⟩) (by assumption) ?_
   try simp only [ql]
   refine wpAnyH_take (i := 17) (v := undef) rfl (by kernel_rfl) (by kernel_rfl) (by kernel_rfl) (fun _ _ _ h => h) (Or.inr ⟨by rfl, rfl⟩) (by assumption) ?_
   try simp only [ql]
   refine wpAnyH_take (i := 18) (v := undef) rfl (by kernel_rfl) (by kernel_rfl) (by kernel_rfl) (fun _ _ _ h => h) (Or.inr ⟨by rfl, rfl⟩) (by assumption) ?_
   try simp only [ql]
   refine wpAnyH_take (i := 19) (v := undef) rfl (by kernel_rfl) (by kernel_rfl) (by kernel_rfl) (fun _ _ _ h => h) (Or.inr ⟨by rfl, rfl⟩) (by assumption) ?_
   try simp only [ql]
   refine tk 20 (v := ?_) rfl (by kernel_rfl) (fun _ _ _ h => h) (Or.inl ⟨by rfl, ?_⟩) (by assumption) ?_
   rotate_left
   ·intro w Aa; (try dsimp only at Aa); first | go_simp; done | go_simp; with_reducible rfl
   try simp only [ql]
   refine tk 21 (v := ?_) rfl (by kernel_rfl) (fun _ _ _ h => h) (Or.inl ⟨by rfl, ?_⟩) (by assumption) ?_
   rotate_left
   ·intro w Aa; (try dsimp only at Aa); first | go_simp; done | go_simp; with_reducible rfl
   try simp only [ql]
   refine wpAnyH_take (i := 22) (v := undef) rfl (by kernel_rfl) (by kernel_rfl) (by kernel_rfl) (fun _ _ _ h => h) (Or.inr ⟨by rfl, rfl⟩) (by assumption) ?_
   try simp only [ql]
   refine wpAnyH_take (i := 23) (v := undef) rfl (by kernel_rfl) (by kernel_rfl) (by kernel_rfl) (fun _ _ _ h => h) (Or.inr ⟨by rfl, rfl⟩) (by assumption) ?_
   try simp only [ql]
   refine wpAnyH_take (i := 24) (v := undef) rfl (by kernel_rfl) (by kernel_rfl) (by kernel_rfl) (fun _ _ _ h => h) (Or.inr ⟨by rfl, rfl⟩) (by assumption) ?_
   try simp only [ql]
   refine wpAnyH_take (i := 25) (v := undef) rfl (by kernel_rfl) (by kernel_rfl) (by kernel_rfl) (fun _ _ _ h => h) (Or.inr ⟨by rfl, rfl⟩) (by assumption) ?_
   try simp only [ql]
   refine tk 26 (v := ?_) rfl (by kernel_rfl) (fun _ _ _ h => h) (Or.inl ⟨by rfl, ?_⟩) (by assumption) ?_
   rotate_left
   ·intro w Aa; (try dsimp only at Aa); first | go_simp; done | go_simp; with_reducible rfl
   try simp only [ql]
   refine tk 27 (v := ?_) rfl (by kernel_rfl) (fun _ _ _ h => h) (Or.inl ⟨by rfl, ?_⟩) (by assumption) ?_
   rotate_left
   ·intro w Aa; (try dsimp only at Aa); first | go_simp; done | go_simp; with_reducible rfl
   try simp only [ql]
   refine wpAnyH_done (by kernel_rfl) ?_ _
   go_wp2_with fail
   go_ret
   exact ⟨by rw [HE.out]; rfl, Ae.out.trans ((S7.b hHeld2).mono Ae.out.size)⟩
  | true =>
   cases oB with
   | false =>
    have HE : Hid (o = false) := hide (by rw [← HO.out]; rfl)
    clear CC HO
    refine wp_region_held_drew (S := fun X : World => S7 W4 ⟨w.heap.size, 0, none⟩ ⟨K, 6, none⟩ ⟨w.heap.size + 1, 0, none⟩ ⟨A.s1, q, none⟩ ⟨w2.heap.size, 0, none⟩ ⟨K, 1, none⟩ ⟨gr, go + q, none⟩ (aa K) (.slice (some ⟨A.s1, 0, none⟩) n n) (.int .i64 q) (.slice la (ag T kT q).length lc) (.func (.func 196) #[] #[aa w.heap.size]) (.slice (some ⟨gr, go, none⟩) T.foes.length A.fc) (.slice bd l.length bp) X) (by kernel_rfl) (S7.drew HT) (fun hHeld => ?_)
    refine tk 0 (v := ?_) rfl (by kernel_rfl) (fun _ _ _ h => h) (Or.inl ⟨by rfl, ?_⟩) (by assumption) ?_
    rotate_left
    ·intro w Aa; (try dsimp only at Aa); first | go_simp; done | go_simp; with_reducible rfl
    try simp only [ql]
    refine tk 1 (v := ?_) rfl (by kernel_rfl) (fun _ _ _ h => h) (Or.inl ⟨by rfl, ?_⟩) (by assumption) ?_
    rotate_left
    ·intro w Aa; (try dsimp only at Aa); first | go_simp; done | go_simp; with_reducible rfl
    try simp only [ql]
    refine tk 2 (v := ?_) rfl (by kernel_rfl) (fun _ _ _ h => h) (Or.inl ⟨by rfl, ?_⟩) (by assumption) ?_
    rotate_left
    ·intro w Aa; (try dsimp only at Aa); first | go_simp; done | go_simp; with_reducible rfl
    try simp only [ql]
    refine tk 3 (v := ?_) rfl (by kernel_rfl) (fun _ _ _ h => h) (Or.inl ⟨by rfl, ?_⟩) (by assumption) ?_
    rotate_left
    ·intro w Aa; (try dsimp only at Aa); first | go_simp; done | go_simp; with_reducible rfl
    try simp only [ql]
    refine tk 4 (v := ?_) rfl (by kernel_rfl) (fun _ _ _ h => h) (Or.inl ⟨by rfl, ?_⟩) (by assumption) ?_
    rotate_left
    ·intro w Aa; (try dsimp only at Aa); first | go_simp; done | go_simp; with_reducible rfl
    try simp only [ql]
    refine tk 5 (v := ?_) rfl (by kernel_rfl) (fun _ _ _ h => h) (Or.inl ⟨by rfl, ?_⟩) (by assumption) ?_
    rotate_left
    ·intro w Aa; (try dsimp only at Aa); first | go_simp; done | go_simp; with_reducible rfl
    try simp only [ql]
    refine tk 6 (v := ?_) rfl (by kernel_rfl) (fun _ _ _ h => h) (Or.inl ⟨by rfl, ?_⟩) (by assumption) ?_
    rotate_left
    ·intro w Aa; (try dsimp only at Aa); first | go_simp; done | go_simp; with_reducible rfl
    try simp only [ql]
    refine tk 7 (v := ?_) rfl (by kernel_rfl) (fun _ _ _ h => h) (Or.inl ⟨by rfl, ?_⟩) (by assumption) ?_
    rotate_left
    ·intro w Aa; (try dsimp only at Aa); first | go_simp; done | go_simp; with_reducible rfl
    try simp only [ql]
    refine wpAnyH_ready (rs := [8]) (by kernel_rfl) (by simp) ?_
    refine AllReadyH.cons rfl (fun KK hKK => ?_) AllReadyH.nil
    go_simp
    go_at_call 190
    refine (CA.out _ (S7.b ‹_›)).mono ?_
    rintro e w' ⟨rfl, hb⟩
    dsimp only
    refine hKK.out _ _ (S7.below ‹_› hb) (fun hHeld2 => ?_)
    clear hKK KK hHeld
    try simp only [ql]
    refine tk 9 (v := ?_) rfl (by kernel_rfl) (fun _ _ _ h => h) (Or.inl ⟨by rfl, ?_⟩) (by assumption) ?_
    rotate_left
    ·intro w Aa; (try dsimp only at Aa); first | go_simp; done | go_simp; with_reducible rfl
    try simp only [ql]
    refine tk 10 (v := ?_) rfl (by kernel_rfl) (fun _ _ _ h => h) (Or.inl ⟨by rfl, ?_⟩) (by assumption) ?_
    rotate_left
    ·intro w Aa; (try dsimp only at Aa); first | go_simp; done | go_simp; with_reducible rfl
    try simp only [ql]
    refine tk 11 (v := ?_) rfl (by kernel_rfl) (fun _ _ _ h => h) (Or.inl ⟨by rfl, ?_⟩) (by assumption) ?_
    rotate_left
    ·intro w Aa; (try dsimp only at Aa); first | go_simp; done | go_simp; with_reducible rfl
    try simp only [ql]
    refine tk 12 (v := ?_) rfl (by kernel_rfl) (fun _ _ _ h => h) (Or.inl ⟨by rfl, ?_⟩) (by assumption) ?_
    rotate_left
    ·intro w Aa; (try dsimp only at Aa); first | go_simp; done | go_simp; with_reducible rfl
    try simp only [ql]
    refine tk 13 (v := ?_) rfl (by kernel_rfl) (fun _ _ _ h => h) (Or.inl ⟨by rfl, ?_⟩) (by assumption) ?_
    rotate_left
    ·intro w Aa; (try dsimp only at Aa); first | go_simp; done | go_simp; with_reducible rfl
    try simp only [ql]
    refine tk 14 (v := ?_) rfl (by kernel_rfl) (fun _ _ _ h => h) (Or.inl ⟨by rfl, ?_⟩) (by assumption) ?_
    rotate_left
    ·intro w Aa; (try dsimp only at Aa); first | go_simp; done | go_simp; with_reducible rfl
    try simp only [ql]
    refine tk 15 (v := ?_) rfl (by kernel_rfl) (fun _ _ _ h => h) (Or.inl ⟨by rfl, ?_⟩) (by assumption) ?_
    rotate_left
    ·intro w Aa; (try dsimp only at Aa); first | go_simp; done | go_simp; with_reducible rfl
    try simp only [ql]
    refine tk 16 (v := ?_) rfl (by kernel_rfl) (fun _ _ _ h => h) (Or.inl ⟨by rfl, ?_⟩) (by assumption) ?_
    rotate_left
    ·intro w Aa; (try dsimp only at Aa); first | go_simp; done | go_simp; with_reducible rfl
    try simp only [ql]
    refine tk 17 (v := ?_) rfl (by kernel_rfl) (fun _ _ _ h => h) (Or.inl ⟨by rfl, ?_⟩) (by assumption) ?_
    rotate_left
    ·intro w Aa; (try dsimp only at Aa); first | go_simp; done | go_simp; with_reducible rfl
    try simp only [ql]
    refine tk 18 (v := ?_) rfl (by kernel_rfl) (fun _ _ _ h => h) (Or.inl ⟨by rfl, ?_⟩) (by assumption) ?_
    rotate_left
    ·intro w Aa; (try dsimp only at Aa); first | go_simp; done | go_simp; with_reducible rfl
    try simp only [ql]
    refine wpAnyH_ready (rs := [19]) (by kernel_rfl) (by simp) ?_
    refine AllReadyH.cons rfl (fun KK hKK => ?_) AllReadyH.nil
    go_simp
    go_at_call 193
    refine (CB.out _ (S7.b ‹_›)).mono ?_
    rintro e w' ⟨rfl, hb⟩
    dsimp only
    refine hKK.out _ _ (S7.below ‹_› hb) (fun hHeld3 => ?_)
    clear hKK KK hHeld2
    try simp only [ql]
    refine tk 20 (v := ?_) rfl (by kernel_rfl) (fun _ _ _ h => h) (Or.inl ⟨by rfl, ?_⟩) (by assumption) ?_
    rotate_left
    ·intro w Aa; (try dsimp only at Aa); first | go_simp; done | go_simp; with_reducible rfl
    try simp only [ql]
    refine tk 21 (v := ?_) rfl (by kernel_rfl) (fun _ _ _ h => h) (Or.inl ⟨by rfl, ?_⟩) (by assumption) ?_
    rotate_left
    ·intro w Aa; (try dsimp only at Aa); first | go_simp; done | go_simp; with_reducible rfl
    try simp only [ql]
    refine wpAnyH_take (i := 22) (v := undef) rfl (by kernel_rfl) (by kernel_rfl) (by kernel_rfl) (fun _ _ _ h => h) (Or.inr ⟨by rfl, rfl⟩) (by assumption) ?_
    try simp only [ql]
    refine wpAnyH_take (i := 23) (v := undef) rfl (by kernel_rfl) (by kernel_rfl) (by kernel_rfl) (fun _ _ _ h => h) (Or.inr ⟨by rfl, rfl⟩) (by assumption) ?_
    try simp only [ql]
    refine wpAnyH_take (i := 24) (v := undef) rfl (by kernel_rfl) (by kernel_rfl) (by kernel_rfl) (fun _ _ _ h => h) (Or.inr ⟨by rfl, rfl⟩) (by assumption) ?_
    try simp only [ql]
    refine wpAnyH_take (i := 25) (v := undef) rfl (by kernel_rfl) (by kernel_rfl) (by kernel_rfl) (fun _ _ _ h => h) (Or.inr ⟨by rfl, rfl⟩) (by assumption) ?_
    try simp only [ql]
    refine tk 26 (v := ?_) rfl (by kernel_rfl) (fun _ _ _ h => h) (Or.inl ⟨by rfl, ?_⟩) (by assumption) ?_
    rotate_left
    ·intro w Aa; (try dsimp only at Aa); first | go_simp; done | go_simp; with_reducible rfl
    try simp only [ql]
    refine tk 27 (v := ?_) rfl (by kernel_rfl) (fun _ _ _ h => h) (Or.inl ⟨by rfl, ?_⟩) (by assumption) ?_
    rotate_left
    ·intro w Aa; (try dsimp only at Aa); first | go_simp; done | go_simp; with_reducible rfl
    try simp only [ql]
    refine wpAnyH_done (by kernel_rfl) ?_ _
    go_wp2_with fail
    go_ret
    exact ⟨by rw [HE.out]; rfl, Ae.out.trans ((S7.b hHeld3).mono Ae.out.size)⟩
   | true =>
    have HE : Hid (o = oC) := hide (by rw [← HO.out]; rfl)
    clear HO
    refine wp_region_held_drew (S := fun X : World => S7 W4 ⟨w.heap.size, 0, none⟩ ⟨K, 6, none⟩ ⟨w.heap.size + 1, 0, none⟩ ⟨A.s1, q, none⟩ ⟨w2.heap.size, 0, none⟩ ⟨K, 1, none⟩ ⟨gr, go + q, none⟩ (aa K) (.slice (some ⟨A.s1, 0, none⟩) n n) (.int .i64 q) (.slice la (ag T kT q).length lc) (.func (.func 196) #[] #[aa w.heap.size]) (.slice (some ⟨gr, go, none⟩) T.foes.length A.fc) (.slice bd l.length bp) X) (by kernel_rfl) (S7.drew HT) (fun hHeld => ?_)
    refine tk 0 (v := ?_) rfl (by kernel_rfl) (fun _ _ _ h => h) (Or.inl ⟨by rfl, ?_⟩) (by assumption) ?_
    rotate_left
    ·intro w Aa; (try dsimp only at Aa); first | go_simp; done | go_simp; with_reducible rfl
    try simp only [ql]
    refine tk 1 (v := ?_) rfl (by kernel_rfl) (fun _ _ _ h => h) (Or.inl ⟨by rfl, ?_⟩) (by assumption) ?_
    rotate_left
    ·intro w Aa; (try dsimp only at Aa); first | go_simp; done | go_simp; with_reducible rfl
    try simp only [ql]
    refine tk 2 (v := ?_) rfl (by kernel_rfl) (fun _ _ _ h => h) (Or.inl ⟨by rfl, ?_⟩) (by assumption) ?_
    rotate_left
    ·intro w Aa; (try dsimp only at Aa); first | go_simp; done | go_simp; with_reducible rfl
    try simp only [ql]
    refine tk 3 (v := ?_) rfl (by kernel_rfl) (fun _ _ _ h => h) (Or.inl ⟨by rfl, ?_⟩) (by assumption) ?_
    rotate_left
    ·intro w Aa; (try dsimp only at Aa); first | go_simp; done | go_simp; with_reducible rfl
    try simp only [ql]
    refine tk 4 (v := ?_) rfl (by kernel_rfl) (fun _ _ _ h => h) (Or.inl ⟨by rfl, ?_⟩) (by assumption) ?_
    rotate_left
    ·intro w Aa; (try dsimp only at Aa); first | go_simp; done | go_simp; with_reducible rfl
    try simp only [ql]
    refine tk 5 (v := ?_) rfl (by kernel_rfl) (fun _ _ _ h => h) (Or.inl ⟨by rfl, ?_⟩) (by assumption) ?_
    rotate_left
    ·intro w Aa; (try dsimp only at Aa); first | go_simp; done | go_simp; with_reducible rfl
    try simp only [ql]
    refine tk 6 (v := ?_) rfl (by kernel_rfl) (fun _ _ _ h => h) (Or.inl ⟨by rfl, ?_⟩) (by assumption) ?_
    rotate_left
    ·intro w Aa; (try dsimp only at Aa); first | go_simp; done | go_simp; with_reducible rfl
    try simp only [ql]
    refine tk 7 (v := ?_) rfl (by kernel_rfl) (fun _ _ _ h => h) (Or.inl ⟨by rfl, ?_⟩) (by assumption) ?_
    rotate_left
    ·intro w Aa; (try dsimp only at Aa); first | go_simp; done | go_simp; with_reducible rfl
    try simp only [ql]
    refine wpAnyH_ready (rs := [8]) (by kernel_rfl) (by simp) ?_
    refine AllReadyH.cons rfl (fun KK hKK => ?_) AllReadyH.nil
    go_simp
    go_at_call 190
    refine (CA.out _ (S7.b ‹_›)).mono ?_
    rintro e w' ⟨rfl, hb⟩
    dsimp only
    refine hKK.out _ _ (S7.below ‹_› hb) (fun hHeld2 => ?_)
    clear hKK KK hHeld
    try simp only [ql]
    refine tk 9 (v := ?_) rfl (by kernel_rfl) (fun _ _ _ h => h) (Or.inl ⟨by rfl, ?_⟩) (by assumption) ?_
    rotate_left
    ·intro w Aa; (try dsimp only at Aa); first | go_simp; done | go_simp; with_reducible rfl
    try simp only [ql]
    refine tk 10 (v := ?_) rfl (by kernel_rfl) (fun _ _ _ h => h) (Or.inl ⟨by rfl, ?_⟩) (by assumption) ?_
    rotate_left
    ·intro w Aa; (try dsimp only at Aa); first | go_simp; done | go_simp; with_reducible rfl
    try simp only [ql]
    refine tk 11 (v := ?_) rfl (by kernel_rfl) (fun _ _ _ h => h) (Or.inl ⟨by rfl, ?_⟩) (by assumption) ?_
    rotate_left
    ·intro w Aa; (try dsimp only at Aa); first | go_simp; done | go_simp; with_reducible rfl
    try simp only [ql]
    refine tk 12 (v := ?_) rfl (by kernel_rfl) (fun _ _ _ h => h) (Or.inl ⟨by rfl, ?_⟩) (by assumption) ?_
    rotate_left
    ·intro w Aa; (try dsimp only at Aa); first | go_simp; done | go_simp; with_reducible rfl
    try simp only [ql]
    refine tk 13 (v := ?_) rfl (by kernel_rfl) (fun _ _ _ h => h) (Or.inl ⟨by rfl, ?_⟩) (by assumption) ?_
    rotate_left
    ·intro w Aa; (try dsimp only at Aa); first | go_simp; done | go_simp; with_reducible rfl
    try simp only [ql]
    refine tk 14 (v := ?_) rfl (by kernel_rfl) (fun _ _ _ h => h) (Or.inl ⟨by rfl, ?_⟩) (by assumption) ?_
    rotate_left
    ·intro w Aa; (try dsimp only at Aa); first | go_simp; done | go_simp; with_reducible rfl
    try simp only [ql]
    refine tk 15 (v := ?_) rfl (by kernel_rfl) (fun _ _ _ h => h) (Or.inl ⟨by rfl, ?_⟩) (by assumption) ?_
    rotate_left
    ·intro w Aa; (try dsimp only at Aa); first | go_simp; done | go_simp; with_reducible rfl
    try simp only [ql]
    refine tk 16 (v := ?_) rfl (by kernel_rfl) (fun _ _ _ h => h) (Or.inl ⟨by rfl, ?_⟩) (by assumption) ?_
    rotate_left
    ·intro w Aa; (try dsimp only at Aa); first | go_simp; done | go_simp; with_reducible rfl
    try simp only [ql]
    refine tk 17 (v := ?_) rfl (by kernel_rfl) (fun _ _ _ h => h) (Or.inl ⟨by rfl, ?_⟩) (by assumption) ?_
    rotate_left
    ·intro w Aa; (try dsimp only at Aa); first | go_simp; done | go_simp; with_reducible rfl
    try simp only [ql]
    refine tk 18 (v := ?_) rfl (by kernel_rfl) (fun _ _ _ h => h) (Or.inl ⟨by rfl, ?_⟩) (by assumption) ?_
    rotate_left
    ·intro w Aa; (try dsimp only at Aa); first | go_simp; done | go_simp; with_reducible rfl
    try simp only [ql]
    refine wpAnyH_ready (rs := [19]) (by kernel_rfl) (by simp) ?_
    refine AllReadyH.cons rfl (fun KK hKK => ?_) AllReadyH.nil
    go_simp
    go_at_call 193
    refine (CB.out _ (S7.b ‹_›)).mono ?_
    rintro e w' ⟨rfl, hb⟩
    dsimp only
    refine hKK.out _ _ (S7.below ‹_› hb) (fun hHeld3 => ?_)
    clear hKK KK hHeld2
    try simp only [ql]
    refine tk 20 (v := ?_) rfl (by kernel_rfl) (fun _ _ _ h => h) (Or.inl ⟨by rfl, ?_⟩) (by assumption) ?_
    rotate_left
    ·intro w Aa; (try dsimp only at Aa); first | go_simp; done | go_simp; with_reducible rfl
    try simp only [ql]
    refine tk 21 (v := ?_) rfl (by kernel_rfl) (fun _ _ _ h => h) (Or.inl ⟨by rfl, ?_⟩) (by assumption) ?_
    rotate_left
    ·intro w Aa; (try dsimp only at Aa); first | go_simp; done | go_simp; with_reducible rfl
    try simp only [ql]
    refine tk 22 (v := ?_) rfl (by kernel_rfl) (fun _ _ _ h => h) (Or.inl ⟨by rfl, ?_⟩) (by assumption) ?_
    rotate_left
    ·intro w Aa; (try dsimp only at Aa); first | go_simp; done | go_simp; with_reducible rfl
    try simp only [ql]
    refine tk 23 (v := ?_) rfl (by kernel_rfl) (fun _ _ _ h => h) (Or.inl ⟨by rfl, ?_⟩) (by assumption) ?_
    rotate_left
    ·intro w Aa; (try dsimp only at Aa); first | go_simp; done | go_simp; with_reducible rfl
    try simp only [ql]
    refine tk 24 (v := ?_) rfl (by kernel_rfl) (fun _ _ _ h => h) (Or.inl ⟨by rfl, ?_⟩) (by assumption) ?_
    rotate_left
    ·intro w Aa; (try dsimp only at Aa); first | go_simp; done | go_simp; with_reducible rfl
    try simp only [ql]
    refine wpAnyH_ready (rs := [25]) (by kernel_rfl) (by simp) ?_
    refine AllReadyH.cons rfl (fun KK hKK => ?_) AllReadyH.nil
    go_simp
    go_at_call 199
    refine (CC.out _ (S7.b ‹_›)).mono ?_
    rintro e w' ⟨rfl, hb⟩
    dsimp only
    refine hKK.out _ _ (S7.below ‹_› hb) (fun hHeld4 => ?_)
    clear hKK KK hHeld3
    try simp only [ql]
    refine tk 26 (v := ?_) rfl (by kernel_rfl) (fun _ _ _ h => h) (Or.inl ⟨by rfl, ?_⟩) (by assumption) ?_
    rotate_left
    ·intro w Aa; (try dsimp only at Aa); first | go_simp; done | go_simp; with_reducible rfl
    try simp only [ql]
    refine tk 27 (v := ?_) rfl (by kernel_rfl) (fun _ _ _ h => h) (Or.inl ⟨by rfl, ?_⟩) (by assumption) ?_
    rotate_left
    ·intro w Aa; (try dsimp only at Aa); first | go_simp; done | go_simp; with_reducible rfl
    try simp only [ql]
    refine wpAnyH_done (by kernel_rfl) ?_ _
    go_wp2_with fail
    go_ret
    exact ⟨by rw [HE.out]; rfl, Ae.out.trans ((S7.b hHeld4).mono Ae.out.size)⟩
theorem kt (h : Kn K A T F n m ma mc w) (hq : q < n) :
    Calls Tryz.prog 165 #[aa K, .int .i64 q] w fun e w' => e = .returned (.bool (minusD T m q)) ∧ Below w.heap.size w w' := by
 have Am := ae w (.cells #[aa K] 152)
 have As := ae (w.alloc (.cells #[aa K] 152)) (.cells #[.int .i64 q] 3)
 have hB : Below w.heap.size w ((w.alloc (.cells #[aa K] 152)).alloc (.cells #[.int .i64 q] 3)) := Am.trans (As.mono Am.size)
 have Ar : Bk w.heap.size K ((w.alloc (.cells #[aa K] 152)).alloc (.cells #[.int .i64 q] 3)) := (As.block _ (by simp)).trans (heap_alloc_new w _)
 have An : Bi (w.heap.size + 1) q ((w.alloc (.cells #[aa K] 152)).alloc (.cells #[.int .i64 q] 3)) := by
  have := heap_alloc_new (w.alloc (.cells #[aa K] 152)) (.cells #[.int .i64 q] 3)
  simpa [Fx] using this
 have hK := h.go hB
 obtain ⟨o, ho⟩ : ∃ o, minusD T m q = o := ⟨_, rfl⟩
 rw [ho]
 unfold minusD at ho
 have HO := hide ho
 clear h ho Am As
 go_enter Tryz.func165, Tryz.ntmps165
 go_upto_region 1 with fail
 generalize (w.alloc (.cells #[aa K] 152)).alloc (.cells #[.int .i64 q] 3) = W at *
 have CH := hide (has_kn hK hq (.inr (.inl rfl)) : Calls Tryz.prog 136 #[aa K, .int .i64 q, .int .i64 2] W _)
 have c1 := Ar.get (i := 0) rfl
 have c2 := An.get (i := 0) rfl
 have HB := hide hB
 have HK := hide hK
 have Ah := hide Ar
 have Aj := hide An
 clear hB hK Ar An
 generalize hs m q 2 = o1 at *
 cases o1 with
 | false =>
  have HE : Hid (o = false) := hide (by rw [← HO.out]; rfl)
  go_wp2_with (go_at_call 136; refine CH.out.mono ?_; rintro _ w2 ⟨rfl, Ad⟩; have Ac := hide Ad; clear Ad)
  go_ret
  exact ⟨by rw [HE.out]; rfl, HB.out.trans (Ac.out.mono HB.out.size)⟩
 | true =>
  go_upto_region 3 with (go_at_call 136; refine CH.out.mono ?_; rintro _ w2 ⟨rfl, Ad⟩; have Ac := hide Ad; have Ax := ar c1 Ad; have Aw := ar c2 Ad; clear Ad)
  clear c1 c2
  go_upto_region 5 with fail
  have Ap := ae w2 (.cells #[.func (.func 203) #[] #[aa w.heap.size]] 172)
  have Aq := ae (w2.alloc (.cells #[.func (.func 203) #[] #[aa w.heap.size]] 172)) (.cells #[.func (.func 204) #[] #[aa w.heap.size]] 172)
  have Ai : Below w2.heap.size w2 ((w2.alloc (.cells #[.func (.func 203) #[] #[aa w.heap.size]] 172)).alloc (.cells #[.func (.func 204) #[] #[aa w.heap.size]] 172)) := Ap.trans (Aq.mono Ap.size)
  have hU : Bf w2.heap.size (.func (.func 203) #[] #[aa w.heap.size]) ((w2.alloc (.cells #[.func (.func 203) #[] #[aa w.heap.size]] 172)).alloc (.cells #[.func (.func 204) #[] #[aa w.heap.size]] 172)) := (Aq.block _ (by simp)).trans (heap_alloc_new w2 _)
  have hR : Bf (w2.heap.size + 1) (.func (.func 204) #[] #[aa w.heap.size]) ((w2.alloc (.cells #[.func (.func 203) #[] #[aa w.heap.size]] 172)).alloc (.cells #[.func (.func 204) #[] #[aa w.heap.size]] 172)) := by
   have := heap_alloc_new (w2.alloc (.cells #[.func (.func 203) #[] #[aa w.heap.size]] 172)) (.cells #[.func (.func 204) #[] #[aa w.heap.size]] 172)
   simpa [Fx] using this
  have Ab := (HK.out.go Ac.out).go Ai
  have Ao := (Aj.out.keep (Ac.out.block _ Aj.out.lt)).keep (Ai.block _ (Aj.out.keep (Ac.out.block _ Aj.out.lt)).lt)
  have Af := (Ah.out.keep (Ac.out.block _ Ah.out.lt)).keep (Ai.block _ (Ah.out.keep (Ac.out.block _ Ah.out.lt)).lt)
  have Ae := hide (HB.out.trans ((Ac.out.trans (Ai.mono Ac.out.size)).mono HB.out.size))
  clear Ap Aq Ai Ax Aw CH
  generalize (w2.alloc (.cells #[.func (.func 203) #[] #[aa w.heap.size]] 172)).alloc (.cells #[.func (.func 204) #[] #[aa w.heap.size]] 172) = W4 at *
  obtain ⟨_, _, la, lc, eg, -, x0, -, Av, Al⟩ := bH Ab.l1 (fU hq)
  cases eg
  rw [Nat.zero_add] at x0
  obtain ⟨l, hl⟩ := am (l := T.foes) (i := q) (by have := Ab.pf.ok.fl; have := Ab.pf.ln; omega)
  have Ay : q < T.foes.length := (List.getElem?_eq_some_iff.1 hl).1
  obtain ⟨gr, go, bd, bp, At, -, x1, -, Au, Ag⟩ := bH Ab.ta.foes hl
  have k1 := Ab.bx.get (i := 1) rfl
  rw [At] at k1
  have k6 := Ab.bx.get (i := 6) rfl
  have d1 := Af.get (i := 0) rfl
  have d2 := Ao.get (i := 0) rfl
  have d3 := hR.get (i := 0) rfl
  have er : row T.foes (q : Int) = l := bn (by rw [Int.toNat_natCast]; exact hl)
  have Ak := Ab.pf.foe q hq
  rw [er] at Ak HO
  have CA : Hid (∀ X, Below W4.heap.size W4 X → Calls Tryz.prog 193 #[.slice la (ag T kT q).length lc, .func (.func 204) #[] #[aa w.heap.size]] X fun e w' => e = .returned (.bool ((ag T kT q).all fun r => partB T m r 4)) ∧ Below X.heap.size X w') := hide fun X hX => eN (c := lc) ((kw Ab Af).go hX) (Al.at1.below hX) Av (fun x hx => bN hx)
  have CB : Hid (∀ X, Below W4.heap.size W4 X → Calls Tryz.prog 190 #[.slice bd l.length bp, .func (.func 205) #[] #[aa w.heap.size]] X fun e w' => e = .returned (.bool (l.any fun f => hs m f 1)) ∧ Below X.heap.size X w') := hide fun X hX => fB (c := bp) ((ky Ab Af).go hX) (Ag.at1.below hX) Au Ak
  have CC : Hid (∀ X, Below W4.heap.size W4 X → Calls Tryz.prog 206 #[aa K, .int .i64 q, .func (.func 207) #[] #[aa w2.heap.size, aa w.heap.size, aa (w.heap.size + 1), aa (w2.heap.size + 1)]] X fun e w' => e = .returned (.bool (l.any fun f => (ag T kA f).any fun s => il T m q s)) ∧ Below X.heap.size X w') := hide fun X hX => by
   have := nB (Ab.go hX) hq ((xW Ab Af Ao hq hU hR).go hX)
   rw [er] at this
   exact this
  have HT : S7 W4 ⟨w.heap.size, 0, none⟩ ⟨K, 6, none⟩ ⟨w.heap.size + 1, 0, none⟩ ⟨A.s1, q, none⟩ ⟨w2.heap.size + 1, 0, none⟩ ⟨K, 1, none⟩ ⟨gr, go + q, none⟩ (aa K) (.slice (some ⟨A.s1, 0, none⟩) n n) (.int .i64 q) (.slice la (ag T kT q).length lc) (.func (.func 204) #[] #[aa w.heap.size]) (.slice (some ⟨gr, go, none⟩) T.foes.length A.fc) (.slice bd l.length bp) W4 := ⟨d1, k6, d2, x0, d3, k1, x1, Below.refl _ _⟩
  clear Ab Af Ao hU hR Al Ag hl At er Ak HK Ah Aj HB Ac
  generalize ((ag T kT q).all fun r => partB T m r 4) = oA at *
  generalize (l.any fun f => hs m f 1) = oB at *
  generalize (l.any fun f => (ag T kA f).any fun s => il T m q s) = oC at *
  cases oA with
  | true =>
   have HE : Hid (o = true) := hide (by rw [← HO.out]; rfl)
   clear CB CC HO
   refine wp_region_held_drew (S := fun X : World => S7 W4 ⟨w.heap.size, 0, none⟩ ⟨K, 6, none⟩ ⟨w.heap.size + 1, 0, none⟩ ⟨A.s1, q, none⟩ ⟨w2.heap.size + 1, 0, none⟩ ⟨K, 1, none⟩ ⟨gr, go + q, none⟩ (aa K) (.slice (some ⟨A.s1, 0, none⟩) n n) (.int .i64 q) (.slice la (ag T kT q).length lc) (.func (.func 204) #[] #[aa w.heap.size]) (.slice (some ⟨gr, go, none⟩) T.foes.length A.fc) (.slice bd l.length bp) X) (by kernel_rfl) (S7.drew HT) (fun hHeld => ?_)
   refine tk 0 (v := ?_) rfl (by kernel_rfl) (fun _ _ _ h => h) (Or.inl ⟨by rfl, ?_⟩) (by assumption) ?_
   rotate_left
   ·intro w Aa; (try dsimp only at Aa); first | go_simp; done | go_simp; with_reducible rfl
   try simp only [ql]
   refine tk 1 (v := ?_) rfl (by kernel_rfl) (fun _ _ _ h => h) (Or.inl ⟨by rfl, ?_⟩) (by assumption) ?_
   rotate_left
   ·intro w Aa; (try dsimp only at Aa); first | go_simp; done | go_simp; with_reducible rfl
   try simp only [ql]
   refine tk 2 (v := ?_) rfl (by kernel_rfl) (fun _ _ _ h => h) (Or.inl ⟨by rfl, ?_⟩) (by assumption) ?_
   rotate_left
   ·intro w Aa; (try dsimp only at Aa); first | go_simp; done | go_simp; with_reducible rfl
   try simp only [ql]
   refine tk 3 (v := ?_) rfl (by kernel_rfl) (fun _ _ _ h => h) (Or.inl ⟨by rfl, ?_⟩) (by assumption) ?_
   rotate_left
   ·intro w Aa; (try dsimp only at Aa); first | go_simp; done | go_simp; with_reducible rfl
   try simp only [ql]
   refine tk 4 (v := ?_) rfl (by kernel_rfl) (fun _ _ _ h => h) (Or.inl ⟨by rfl, ?_⟩) (by assumption) ?_
   rotate_left
   ·intro w Aa; (try dsimp only at Aa); first | go_simp; done | go_simp; with_reducible rfl
   try simp only [ql]
   refine tk 5 (v := ?_) rfl (by kernel_rfl) (fun _ _ _ h => h) (Or.inl ⟨by rfl, ?_⟩) (by assumption) ?_
   rotate_left
   ·intro w Aa; (try dsimp only at Aa); first | go_simp; done | go_simp; with_reducible rfl
   try simp only [ql]
   refine tk 6 (v := ?_) rfl (by kernel_rfl) (fun _ _ _ h => h) (Or.inl ⟨by rfl, ?_⟩) (by assumption) ?_
   rotate_left
   ·intro w Aa; (try dsimp only at Aa); first | go_simp; done | go_simp; with_reducible rfl
   try simp only [ql]
   refine tk 7 (v := ?_) rfl (by kernel_rfl) (fun _ _ _ h => h) (Or.inl ⟨by rfl, ?_⟩) (by assumption) ?_
   rotate_left
   ·intro w Aa; (try dsimp only at Aa); first | go_simp; done | go_simp; with_reducible rfl
   try simp only [ql]
   refine wpAnyH_ready (rs := [8]) (by kernel_rfl) (by simp) ?_
   refine AllReadyH.cons rfl (fun KK hKK => ?_) AllReadyH.nil
   go_simp
   go_at_call 193
   refine (CA.out _ (S7.b ‹_›)).mono ?_
   rintro e w' ⟨rfl, hb⟩
   dsimp only
   refine hKK.out _ _ (S7.below ‹_› hb) (fun hHeld2 => ?_)
   clear hKK KK hHeld
   try simp only [ql]
   refine tk 9 (v := ?_) rfl (by kernel_rfl) (fun _ _ _ h => h) (Or.inl ⟨by rfl, ?_⟩) (by assumption) ?_
   rotate_left
   ·intro w Aa; (try dsimp only at Aa); first | go_simp; done | go_simp; with_reducible rfl
   try simp only [ql]
   refine wpAnyH_take (i := 10) (v := undef) rfl (by kernel_rfl) (by kernel_rfl) (by kernel_rfl) (fun _ _ _ h => h) (Or.inr ⟨by rfl, rfl⟩) (by assumption) ?_
   try simp only [ql]
   refine wpAnyH_take (i := 11) (v := undef) rfl (by kernel_rfl) (by kernel_rfl) (by kernel_rfl) (fun _ _ _ h => h) (Or.inr ⟨by rfl, rfl⟩) (by assumption) ?_
   try simp only [ql]
   refine wpAnyH_take (i := 12) (v := undef) rfl (by kernel_rfl) (by kernel_rfl) (by kernel_rfl) (fun _ _ _ h => h) (Or.inr ⟨by rfl, rfl⟩) (by assumption) ?_
   try simp only [ql]
   refine wpAnyH_take (i := 13) (v := undef) rfl (by kernel_rfl) (by kernel_rfl) (by kernel_rfl) (fun _ _ _ h => h) (Or.inr ⟨by rfl, rfl⟩) (by assumption) ?_
   try simp only [ql]
   refine wpAnyH_take (i := 14) (v := undef) rfl (by kernel_rfl) (by kernel_rfl) (by kernel_rfl) (fun _ _ _ h => h) (Or.inr ⟨by rfl, rfl⟩) (by assumption) ?_
   try simp only [ql]
   refine wpAnyH_take (i := 15) (v := undef) rfl (by kernel_rfl) (by kernel_rfl) (by kernel_rfl) (fun _ _ _ h => h) (Or.inr ⟨by rfl, rfl⟩) (by assumption) ?_
   try simp only [ql]
   refine wpAnyH_take (i := 16) (v := undef) rfl (by kernel_rfl) (by kernel_rfl) (by kernel_rfl) (fun _ _ _ h => h) (Or.inr ⟨by rfl, rfl⟩) (by assumption) ?_
   try simp only [ql]
   refine wpAnyH_take (i := 17) (v := undef) rfl (by kernel_rfl) (by kernel_rfl) (by kernel_rfl) (fun _ _ _ h => h) (Or.inr ⟨by rfl, rfl⟩) (by assumption) ?_
   try simp only [ql]
   refine wpAnyH_take (i := 18) (v := undef) rfl (by kernel_rfl) (by kernel_rfl) (by kernel_rfl) (fun _ _ _ h => h) (Or.inr ⟨by rfl, rfl⟩) (by assumption) ?_
   try simp only [ql]
   refine wpAnyH_take (i := 19) (v := undef) rfl (by kernel_rfl) (by kernel_rfl) (by kernel_rfl) (fun _ _ _ h => h) (Or.inr ⟨by rfl, rfl⟩) (by assumption) ?_
   try simp only [ql]
   refine tk 20 (v := ?_) rfl (by kernel_rfl) (fun _ _ _ h => h) (Or.inl ⟨by rfl, ?_⟩) (by assumption) ?_
   rotate_left
   ·intro w Aa; (try dsimp only at Aa); first | go_simp; done | go_simp; with_reducible rfl
   try simp only [ql]
   refine tk 21 (v := ?_) rfl (by kernel_rfl) (fun _ _ _ h => h) (Or.inl ⟨by rfl, ?_⟩) (by assumption) ?_
   rotate_left
   ·intro w Aa; (try dsimp only at Aa); first | go_simp; done | go_simp; with_reducible rfl
   try simp only [ql]
   refine wpAnyH_take (i := 22) (v := undef) rfl (by kernel_rfl) (by kernel_rfl) (by kernel_rfl) (fun _ _ _ h => h) (Or.inr ⟨by rfl, rfl⟩) (by assumption) ?_
   try simp only [ql]
   refine wpAnyH_take (i := 23) (v := undef) rfl (by kernel_rfl) (by kernel_rfl) (by kernel_rfl) (fun _ _ _ h => h) (Or.inr ⟨by rfl, rfl⟩) (by assumption) ?_
   try simp only [ql]
   refine wpAnyH_take (i := 24) (v := undef) rfl (by kernel_rfl) (by kernel_rfl) (by kernel_rfl) (fun _ _ _ h => h) (Or.inr ⟨by rfl, rfl⟩) (by assumption) ?_
   try simp only [ql]
   refine wpAnyH_take (i := 25) (v := undef) rfl (by kernel_rfl) (by kernel_rfl) (by kernel_rfl) (fun _ _ _ h => h) (Or.inr ⟨by rfl, rfl⟩) (by assumption) ?_
   try simp only [ql]
   refine tk 26 (v := ?_) rfl (by kernel_rfl) (fun _ _ _ h => h) (Or.inl ⟨by rfl, ?_⟩) (by assumption) ?_
   rotate_left
   ·intro w Aa; (try dsimp only at Aa); first | go_simp; done | go_simp; with_reducible rfl
   try simp only [ql]
   refine tk 27 (v := ?_) rfl (by kernel_rfl) (fun _ _ _ h => h) (Or.inl ⟨by rfl, ?_⟩) (by assumption) ?_
   rotate_left
   ·intro w Aa; (try dsimp only at Aa); first | go_simp; done | go_simp; with_reducible rfl
   try simp only [ql]
   refine wpAnyH_done (by kernel_rfl) ?_ _
   go_wp2_with fail
   go_ret
   exact ⟨by rw [HE.out]; rfl, Ae.out.trans ((S7.b hHeld2).mono Ae.out.size)⟩
  | false =>
   cases oB with
   | true =>
    have HE : Hid (o = true) := hide (by rw [← HO.out]; rfl)
    clear CC HO
    refine wp_region_held_drew (S := fun X : World => S7 W4 ⟨w.heap.size, 0, none⟩ ⟨K, 6, none⟩ ⟨w.heap.size + 1, 0, none⟩ ⟨A.s1, q, none⟩ ⟨w2.heap.size + 1, 0, none⟩ ⟨K, 1, none⟩ ⟨gr, go + q, none⟩ (aa K) (.slice (some ⟨A.s1, 0, none⟩) n n) (.int .i64 q) (.slice la (ag T kT q).length lc) (.func (.func 204) #[] #[aa w.heap.size]) (.slice (some ⟨gr, go, none⟩) T.foes.length A.fc) (.slice bd l.length bp) X) (by kernel_rfl) (S7.drew HT) (fun hHeld => ?_)
    refine tk 0 (v := ?_) rfl (by kernel_rfl) (fun _ _ _ h => h) (Or.inl ⟨by rfl, ?_⟩) (by assumption) ?_
    rotate_left
    ·intro w Aa; (try dsimp only at Aa); first | go_simp; done | go_simp; with_reducible rfl
    try simp only [ql]
    refine tk 1 (v := ?_) rfl (by kernel_rfl) (fun _ _ _ h => h) (Or.inl ⟨by rfl, ?_⟩) (by assumption) ?_
    rotate_left
    ·intro w Aa; (try dsimp only at Aa); first | go_simp; done | go_simp; with_reducible rfl
    try simp only [ql]
    refine tk 2 (v := ?_) rfl (by kernel_rfl) (fun _ _ _ h => h) (Or.inl ⟨by rfl, ?_⟩) (by assumption) ?_
    rotate_left
    ·intro w Aa; (try dsimp only at Aa); first | go_simp; done | go_simp; with_reducible rfl
    try simp only [ql]
    refine tk 3 (v := ?_) rfl (by kernel_rfl) (fun _ _ _ h => h) (Or.inl ⟨by rfl, ?_⟩) (by assumption) ?_
    rotate_left
    ·intro w Aa; (try dsimp only at Aa); first | go_simp; done | go_simp; with_reducible rfl
    try simp only [ql]
    refine tk 4 (v := ?_) rfl (by kernel_rfl) (fun _ _ _ h => h) (Or.inl ⟨by rfl, ?_⟩) (by assumption) ?_
    rotate_left
    ·intro w Aa; (try dsimp only at Aa); first | go_simp; done | go_simp; with_reducible rfl
    try simp only [ql]
    refine tk 5 (v := ?_) rfl (by kernel_rfl) (fun _ _ _ h => h) (Or.inl ⟨by rfl, ?_⟩) (by assumption) ?_
    rotate_left
    ·intro w Aa; (try dsimp only at Aa); first | go_simp; done | go_simp; with_reducible rfl
    try simp only [ql]
    refine tk 6 (v := ?_) rfl (by kernel_rfl) (fun _ _ _ h => h) (Or.inl ⟨by rfl, ?_⟩) (by assumption) ?_
    rotate_left
    ·intro w Aa; (try dsimp only at Aa); first | go_simp; done | go_simp; with_reducible rfl
    try simp only [ql]
    refine tk 7 (v := ?_) rfl (by kernel_rfl) (fun _ _ _ h => h) (Or.inl ⟨by rfl, ?_⟩) (by assumption) ?_
    rotate_left
    ·intro w Aa; (try dsimp only at Aa); first | go_simp; done | go_simp; with_reducible rfl
    try simp only [ql]
    refine wpAnyH_ready (rs := [8]) (by kernel_rfl) (by simp) ?_
    refine AllReadyH.cons rfl (fun KK hKK => ?_) AllReadyH.nil
    go_simp
    go_at_call 193
    refine (CA.out _ (S7.b ‹_›)).mono ?_
    rintro e w' ⟨rfl, hb⟩
    dsimp only
    refine hKK.out _ _ (S7.below ‹_› hb) (fun hHeld2 => ?_)
    clear hKK KK hHeld
    try simp only [ql]
    refine tk 9 (v := ?_) rfl (by kernel_rfl) (fun _ _ _ h => h) (Or.inl ⟨by rfl, ?_⟩) (by assumption) ?_
    rotate_left
    ·intro w Aa; (try dsimp only at Aa); first | go_simp; done | go_simp; with_reducible rfl
    try simp only [ql]
    refine tk 10 (v := ?_) rfl (by kernel_rfl) (fun _ _ _ h => h) (Or.inl ⟨by rfl, ?_⟩) (by assumption) ?_
    rotate_left
    ·intro w Aa; (try dsimp only at Aa); first | go_simp; done | go_simp; with_reducible rfl
    try simp only [ql]
    refine tk 11 (v := ?_) rfl (by kernel_rfl) (fun _ _ _ h => h) (Or.inl ⟨by rfl, ?_⟩) (by assumption) ?_
    rotate_left
    ·intro w Aa; (try dsimp only at Aa); first | go_simp; done | go_simp; with_reducible rfl
    try simp only [ql]
    refine tk 12 (v := ?_) rfl (by kernel_rfl) (fun _ _ _ h => h) (Or.inl ⟨by rfl, ?_⟩) (by assumption) ?_
    rotate_left
    ·intro w Aa; (try dsimp only at Aa); first | go_simp; done | go_simp; with_reducible rfl
    try simp only [ql]
    refine tk 13 (v := ?_) rfl (by kernel_rfl) (fun _ _ _ h => h) (Or.inl ⟨by rfl, ?_⟩) (by assumption) ?_
    rotate_left
    ·intro w Aa; (try dsimp only at Aa); first | go_simp; done | go_simp; with_reducible rfl
    try simp only [ql]
    refine tk 14 (v := ?_) rfl (by kernel_rfl) (fun _ _ _ h => h) (Or.inl ⟨by rfl, ?_⟩) (by assumption) ?_
    rotate_left
    ·intro w Aa; (try dsimp only at Aa); first | go_simp; done | go_simp; with_reducible rfl
    try simp only [ql]
    refine tk 15 (v := ?_) rfl (by kernel_rfl) (fun _ _ _ h => h) (Or.inl ⟨by rfl, ?_⟩) (by assumption) ?_
    rotate_left
    ·intro w Aa; (try dsimp only at Aa); first | go_simp; done | go_simp; with_reducible rfl
    try simp only [ql]
    refine tk 16 (v := ?_) rfl (by kernel_rfl) (fun _ _ _ h => h) (Or.inl ⟨by rfl, ?_⟩) (by assumption) ?_
    rotate_left
    ·intro w Aa; (try dsimp only at Aa); first | go_simp; done | go_simp; with_reducible rfl
    try simp only [ql]
    refine tk 17 (v := ?_) rfl (by kernel_rfl) (fun _ _ _ h => h) (Or.inl ⟨by rfl, ?_⟩) (by assumption) ?_
    rotate_left
    ·intro w Aa; (try dsimp only at Aa); first | go_simp; done | go_simp; with_reducible rfl
    try simp only [ql]
    refine tk 18 (v := ?_) rfl (by kernel_rfl) (fun _ _ _ h => h) (Or.inl ⟨by rfl, ?_⟩) (by assumption) ?_
    rotate_left
    ·intro w Aa; (try dsimp only at Aa); first | go_simp; done | go_simp; with_reducible rfl
    try simp only [ql]
    refine wpAnyH_ready (rs := [19]) (by kernel_rfl) (by simp) ?_
    refine AllReadyH.cons rfl (fun KK hKK => ?_) AllReadyH.nil
    go_simp
    go_at_call 190
    refine (CB.out _ (S7.b ‹_›)).mono ?_
    rintro e w' ⟨rfl, hb⟩
    dsimp only
    refine hKK.out _ _ (S7.below ‹_› hb) (fun hHeld3 => ?_)
    clear hKK KK hHeld2
    try simp only [ql]
    refine tk 20 (v := ?_) rfl (by kernel_rfl) (fun _ _ _ h => h) (Or.inl ⟨by rfl, ?_⟩) (by assumption) ?_
    rotate_left
    ·intro w Aa; (try dsimp only at Aa); first | go_simp; done | go_simp; with_reducible rfl
    try simp only [ql]
    refine tk 21 (v := ?_) rfl (by kernel_rfl) (fun _ _ _ h => h) (Or.inl ⟨by rfl, ?_⟩) (by assumption) ?_
    rotate_left
    ·intro w Aa; (try dsimp only at Aa); first | go_simp; done | go_simp; with_reducible rfl
    try simp only [ql]
    refine wpAnyH_take (i := 22) (v := undef) rfl (by kernel_rfl) (by kernel_rfl) (by kernel_rfl) (fun _ _ _ h => h) (Or.inr ⟨by rfl, rfl⟩) (by assumption) ?_
    try simp only [ql]
    refine wpAnyH_take (i := 23) (v := undef) rfl (by kernel_rfl) (by kernel_rfl) (by kernel_rfl) (fun _ _ _ h => h) (Or.inr ⟨by rfl, rfl⟩) (by assumption) ?_
    try simp only [ql]
    refine wpAnyH_take (i := 24) (v := undef) rfl (by kernel_rfl) (by kernel_rfl) (by kernel_rfl) (fun _ _ _ h => h) (Or.inr ⟨by rfl, rfl⟩) (by assumption) ?_
    try simp only [ql]
    refine wpAnyH_take (i := 25) (v := undef) rfl (by kernel_rfl) (by kernel_rfl) (by kernel_rfl) (fun _ _ _ h => h) (Or.inr ⟨by rfl, rfl⟩) (by assumption) ?_
    try simp only [ql]
    refine tk 26 (v := ?_) rfl (by kernel_rfl) (fun _ _ _ h => h) (Or.inl ⟨by rfl, ?_⟩) (by assumption) ?_
    rotate_left
    ·intro w Aa; (try dsimp only at Aa); first | go_simp; done | go_simp; with_reducible rfl
    try simp only [ql]
    refine tk 27 (v := ?_) rfl (by kernel_rfl) (fun _ _ _ h => h) (Or.inl ⟨by rfl, ?_⟩) (by assumption) ?_
    rotate_left
    ·intro w Aa; (try dsimp only at Aa); first | go_simp; done | go_simp; with_reducible rfl
    try simp only [ql]
    refine wpAnyH_done (by kernel_rfl) ?_ _
    go_wp2_with fail
    go_ret
    exact ⟨by rw [HE.out]; rfl, Ae.out.trans ((S7.b hHeld3).mono Ae.out.size)⟩
   | false =>
    have HE : Hid (o = oC) := hide (by rw [← HO.out]; rfl)
    clear HO
    refine wp_region_held_drew (S := fun X : World => S7 W4 ⟨w.heap.size, 0, none⟩ ⟨K, 6, none⟩ ⟨w.heap.size + 1, 0, none⟩ ⟨A.s1, q, none⟩ ⟨w2.heap.size + 1, 0, none⟩ ⟨K, 1, none⟩ ⟨gr, go + q, none⟩ (aa K) (.slice (some ⟨A.s1, 0, none⟩) n n) (.int .i64 q) (.slice la (ag T kT q).length lc) (.func (.func 204) #[] #[aa w.heap.size]) (.slice (some ⟨gr, go, none⟩) T.foes.length A.fc) (.slice bd l.length bp) X) (by kernel_rfl) (S7.drew HT) (fun hHeld => ?_)
    refine tk 0 (v := ?_) rfl (by kernel_rfl) (fun _ _ _ h => h) (Or.inl ⟨by rfl, ?_⟩) (by assumption) ?_
    rotate_left
    ·intro w Aa; (try dsimp only at Aa); first | go_simp; done | go_simp; with_reducible rfl
    try simp only [ql]
    refine tk 1 (v := ?_) rfl (by kernel_rfl) (fun _ _ _ h => h) (Or.inl ⟨by rfl, ?_⟩) (by assumption) ?_
    rotate_left
    ·intro w Aa; (try dsimp only at Aa); first | go_simp; done | go_simp; with_reducible rfl
    try simp only [ql]
    refine tk 2 (v := ?_) rfl (by kernel_rfl) (fun _ _ _ h => h) (Or.inl ⟨by rfl, ?_⟩) (by assumption) ?_
    rotate_left
    ·intro w Aa; (try dsimp only at Aa); first | go_simp; done | go_simp; with_reducible rfl
    try simp only [ql]
    refine tk 3 (v := ?_) rfl (by kernel_rfl) (fun _ _ _ h => h) (Or.inl ⟨by rfl, ?_⟩) (by assumption) ?_
    rotate_left
    ·intro w Aa; (try dsimp only at Aa); first | go_simp; done | go_simp; with_reducible rfl
    try simp only [ql]
    refine tk 4 (v := ?_) rfl (by kernel_rfl) (fun _ _ _ h => h) (Or.inl ⟨by rfl, ?_⟩) (by assumption) ?_
    rotate_left
    ·intro w Aa; (try dsimp only at Aa); first | go_simp; done | go_simp; with_reducible rfl
    try simp only [ql]
    refine tk 5 (v := ?_) rfl (by kernel_rfl) (fun _ _ _ h => h) (Or.inl ⟨by rfl, ?_⟩) (by assumption) ?_
    rotate_left
    ·intro w Aa; (try dsimp only at Aa); first | go_simp; done | go_simp; with_reducible rfl
    try simp only [ql]
    refine tk 6 (v := ?_) rfl (by kernel_rfl) (fun _ _ _ h => h) (Or.inl ⟨by rfl, ?_⟩) (by assumption) ?_
    rotate_left
    ·intro w Aa; (try dsimp only at Aa); first | go_simp; done | go_simp; with_reducible rfl
    try simp only [ql]
    refine tk 7 (v := ?_) rfl (by kernel_rfl) (fun _ _ _ h => h) (Or.inl ⟨by rfl, ?_⟩) (by assumption) ?_
    rotate_left
    ·intro w Aa; (try dsimp only at Aa); first | go_simp; done | go_simp; with_reducible rfl
    try simp only [ql]
    refine wpAnyH_ready (rs := [8]) (by kernel_rfl) (by simp) ?_
    refine AllReadyH.cons rfl (fun KK hKK => ?_) AllReadyH.nil
    go_simp
    go_at_call 193
    refine (CA.out _ (S7.b ‹_›)).mono ?_
    rintro e w' ⟨rfl, hb⟩
    dsimp only
    refine hKK.out _ _ (S7.below ‹_› hb) (fun hHeld2 => ?_)
    clear hKK KK hHeld
    try simp only [ql]
    refine tk 9 (v := ?_) rfl (by kernel_rfl) (fun _ _ _ h => h) (Or.inl ⟨by rfl, ?_⟩) (by assumption) ?_
    rotate_left
    ·intro w Aa; (try dsimp only at Aa); first | go_simp; done | go_simp; with_reducible rfl
    try simp only [ql]
    refine tk 10 (v := ?_) rfl (by kernel_rfl) (fun _ _ _ h => h) (Or.inl ⟨by rfl, ?_⟩) (by assumption) ?_
    rotate_left
    ·intro w Aa; (try dsimp only at Aa); first | go_simp; done | go_simp; with_reducible rfl
    try simp only [ql]
    refine tk 11 (v := ?_) rfl (by kernel_rfl) (fun _ _ _ h => h) (Or.inl ⟨by rfl, ?_⟩) (by assumption) ?_
    rotate_left
    ·intro w Aa; (try dsimp only at Aa); first | go_simp; done | go_simp; with_reducible rfl
    try simp only [ql]
    refine tk 12 (v := ?_) rfl (by kernel_rfl) (fun _ _ _ h => h) (Or.inl ⟨by rfl, ?_⟩) (by assumption) ?_
    rotate_left
    ·intro w Aa; (try dsimp only at Aa); first | go_simp; done | go_simp; with_reducible rfl
    try simp only [ql]
    refine tk 13 (v := ?_) rfl (by kernel_rfl) (fun _ _ _ h => h) (Or.inl ⟨by rfl, ?_⟩) (by assumption) ?_
    rotate_left
    ·intro w Aa; (try dsimp only at Aa); first | go_simp; done | go_simp; with_reducible rfl
    try simp only [ql]
    refine tk 14 (v := ?_) rfl (by kernel_rfl) (fun _ _ _ h => h) (Or.inl ⟨by rfl, ?_⟩) (by assumption) ?_
    rotate_left
    ·intro w Aa; (try dsimp only at Aa); first | go_simp; done | go_simp; with_reducible rfl
    try simp only [ql]
    refine tk 15 (v := ?_) rfl (by kernel_rfl) (fun _ _ _ h => h) (Or.inl ⟨by rfl, ?_⟩) (by assumption) ?_
    rotate_left
    ·intro w Aa; (try dsimp only at Aa); first | go_simp; done | go_simp; with_reducible rfl
    try simp only [ql]
    refine tk 16 (v := ?_) rfl (by kernel_rfl) (fun _ _ _ h => h) (Or.inl ⟨by rfl, ?_⟩) (by assumption) ?_
    rotate_left
    ·intro w Aa; (try dsimp only at Aa); first | go_simp; done | go_simp; with_reducible rfl
    try simp only [ql]
    refine tk 17 (v := ?_) rfl (by kernel_rfl) (fun _ _ _ h => h) (Or.inl ⟨by rfl, ?_⟩) (by assumption) ?_
    rotate_left
    ·intro w Aa; (try dsimp only at Aa); first | go_simp; done | go_simp; with_reducible rfl
    try simp only [ql]
    refine tk 18 (v := ?_) rfl (by kernel_rfl) (fun _ _ _ h => h) (Or.inl ⟨by rfl, ?_⟩) (by assumption) ?_
    rotate_left
    ·intro w Aa; (try dsimp only at Aa); first | go_simp; done | go_simp; with_reducible rfl
    try simp only [ql]
    refine wpAnyH_ready (rs := [19]) (by kernel_rfl) (by simp) ?_
    refine AllReadyH.cons rfl (fun KK hKK => ?_) AllReadyH.nil
    go_simp
    go_at_call 190
    refine (CB.out _ (S7.b ‹_›)).mono ?_
    rintro e w' ⟨rfl, hb⟩
    dsimp only
    refine hKK.out _ _ (S7.below ‹_› hb) (fun hHeld3 => ?_)
    clear hKK KK hHeld2
    try simp only [ql]
    refine tk 20 (v := ?_) rfl (by kernel_rfl) (fun _ _ _ h => h) (Or.inl ⟨by rfl, ?_⟩) (by assumption) ?_
    rotate_left
    ·intro w Aa; (try dsimp only at Aa); first | go_simp; done | go_simp; with_reducible rfl
    try simp only [ql]
    refine tk 21 (v := ?_) rfl (by kernel_rfl) (fun _ _ _ h => h) (Or.inl ⟨by rfl, ?_⟩) (by assumption) ?_
    rotate_left
    ·intro w Aa; (try dsimp only at Aa); first | go_simp; done | go_simp; with_reducible rfl
    try simp only [ql]
    refine tk 22 (v := ?_) rfl (by kernel_rfl) (fun _ _ _ h => h) (Or.inl ⟨by rfl, ?_⟩) (by assumption) ?_
    rotate_left
    ·intro w Aa; (try dsimp only at Aa); first | go_simp; done | go_simp; with_reducible rfl
    try simp only [ql]
    refine tk 23 (v := ?_) rfl (by kernel_rfl) (fun _ _ _ h => h) (Or.inl ⟨by rfl, ?_⟩) (by assumption) ?_
    rotate_left
    ·intro w Aa; (try dsimp only at Aa); first | go_simp; done | go_simp; with_reducible rfl
    try simp only [ql]
    refine tk 24 (v := ?_) rfl (by kernel_rfl) (fun _ _ _ h => h) (Or.inl ⟨by rfl, ?_⟩) (by assumption) ?_
    rotate_left
    ·intro w Aa; (try dsimp only at Aa); first | go_simp; done | go_simp; with_reducible rfl
    try simp only [ql]
    refine wpAnyH_ready (rs := [25]) (by kernel_rfl) (by simp) ?_
    refine AllReadyH.cons rfl (fun KK hKK => ?_) AllReadyH.nil
    go_simp
    go_at_call 206
    refine (CC.out _ (S7.b ‹_›)).mono ?_
    rintro e w' ⟨rfl, hb⟩
    dsimp only
    refine hKK.out _ _ (S7.below ‹_› hb) (fun hHeld4 => ?_)
    clear hKK KK hHeld3
    try simp only [ql]
    refine tk 26 (v := ?_) rfl (by kernel_rfl) (fun _ _ _ h => h) (Or.inl ⟨by rfl, ?_⟩) (by assumption) ?_
    rotate_left
    ·intro w Aa; (try dsimp only at Aa); first | go_simp; done | go_simp; with_reducible rfl
    try simp only [ql]
    refine tk 27 (v := ?_) rfl (by kernel_rfl) (fun _ _ _ h => h) (Or.inl ⟨by rfl, ?_⟩) (by assumption) ?_
    rotate_left
    ·intro w Aa; (try dsimp only at Aa); first | go_simp; done | go_simp; with_reducible rfl
    try simp only [ql]
    refine wpAnyH_done (by kernel_rfl) ?_ _
    go_wp2_with fail
    go_ret
    exact ⟨by rw [HE.out]; rfl, Ae.out.trans ((S7.b hHeld4).mono Ae.out.size)⟩
end
end Go.Proofs.YtmlhcncagdfjfaaGreat
