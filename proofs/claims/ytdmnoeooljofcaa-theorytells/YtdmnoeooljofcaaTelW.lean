/- TheoryTells, walked. -/
import Derived.Test.YtdmnoeooljofcaaTel5
import Derived.Test.YtdmnoeooljofcaaWorks
namespace Go.Proofs.Ytdmnoeooljofcaa.Rf
open Go.RowKit Cz

/-- What a cone comes to. -/
def CX (T : Th) (l L : List Int) (E : Int) : Prop :=
  ((checkM T).1 ≠ 0 ∧ L = [] ∧ E = (checkM T).1) ∨ ((checkM T).1 = 0 ∧ (∃ x ∈ l, ¬ (0 ≤ x ∧ x < T.lits)) ∧ L = [] ∧ E = 91) ∨
  ((checkM T).1 = 0 ∧ (∀ x ∈ l, 0 ≤ x ∧ x < T.lits) ∧ E = 0 ∧ ∃ R : List Bool, R.length = T.lits.toNat ∧ (∀ y, 0 ≤ y → (hit R y = true ↔ Rch T l y)) ∧ L = placesM R)
section
variable {T : Th} {l L L' : List Int} {E E' : Int} {w w' : World} {e : Ending}
theorem cx_one (h : CX T l L E) (h' : CX T l L' E') : L = L' ∧ E = E' := by
  rcases h with ⟨a, b, c⟩ | ⟨a, ⟨x, hx, hn⟩, b, c⟩ | ⟨a, b, c, R, d, f, g⟩ <;> rcases h' with ⟨a', b', c'⟩ | ⟨a', ⟨x', hx', hn'⟩, b', c'⟩ | ⟨a', b', c', R', d', f', g'⟩
  · exact ⟨by rw [b, b'], by rw [c, c']⟩
  · exact absurd a' a
  · exact absurd a' a
  · exact absurd a a'
  · exact ⟨by rw [b, b'], by rw [c, c']⟩
  · exact absurd (b' x hx) hn
  · exact absurd a a'
  · exact absurd (b x' hx') hn'
  · have : R = R' := hit_same (by rw [d, d']) fun y hy => (f y hy).trans (f' y hy).symm
    exact ⟨by rw [g, g', this], by rw [c, c']⟩
theorem places_len {R : List Bool} : (placesM R).length ≤ R.length := by
  show (((List.range R.length).filter _).map _).length ≤ _
  rw [List.length_map]
  exact Nat.le_trans (List.length_filter_le _ _) (by simp)
theorem cx_len (h : CX T l L E) : L.length ≤ 4096 := by
  rcases h with ⟨a, b, c⟩ | ⟨a, _, b, c⟩ | ⟨a, b, c, R, d, f, g⟩
  · rw [b]; simp
  · rw [b]; simp
  · have := check_ok a
    have h1 := this.l1
    have h2 := places_len (R := R)
    rw [g]
    omega
theorem cx_of (h : Cnd T l w e w') : ∃ L E a c, CX T l L E ∧ e = .returned (.tuple #[.slice a L.length c, .int .i64 E]) ∧ At1 w' a (ints L) := by
  rcases h with ⟨a, b⟩ | ⟨a, b, c⟩ | ⟨a, b, R, xa, xc, d, f, g, o⟩
  · exact ⟨[], _, none, 0, .inl ⟨a, rfl, rfl⟩, b, fun i v hi => by simp [ints] at hi⟩
  · exact ⟨[], _, none, 0, .inr (.inl ⟨a, b, rfl, rfl⟩), c, fun i v hi => by simp [ints] at hi⟩
  · exact ⟨_, _, xa, xc, .inr (.inr ⟨a, b, rfl, R, d, f, rfl⟩), g, owns_at1 o⟩
theorem rcx_of (h : rCnd T l e w') : ∃ L E a c, CX T l L E ∧ e = .returned (.tuple #[.slice a L.length c, .int .i64 E]) ∧ At1 w' a (ints L) := by
  rcases h with ⟨a, b⟩ | ⟨a, b, c⟩ | ⟨a, b, R, xa, xc, d, f, g, o⟩
  · exact ⟨[], _, none, 0, .inl ⟨a, rfl, rfl⟩, b, fun i v hi => by simp [ints] at hi⟩
  · exact ⟨[], _, none, 0, .inr (.inl ⟨a, b, rfl, rfl⟩), c, fun i v hi => by simp [ints] at hi⟩
  · exact ⟨_, _, xa, xc, .inr (.inr ⟨a, b, rfl, R, d, f, rfl⟩), g, o⟩
theorem forX_len : (forX T E).length ≤ T.rules.length := by
  unfold forX
  split
  · exact forL_len
  · simp
end
theorem num_q (w : World) (e : Int) : Calls Try.prog 9 #[.int .i64 e] w fun r w' => r = .returned (.int .i64 e) ∧ w' = w := by
  go_enter Try.func9, Try.ntmps9
  go_wp2_with fail
  go_ret
  exact ⟨rfl, rfl⟩
set_option maxRecDepth 100000 in
set_option maxHeartbeats 12800000 in
theorem tells_law {w : World} {T : Th} {F : List Int} {fa ra ba xa : Option Addr} {fc rc bc xc : Nat} {q : Int} (h : TA w.heap.size w T fa fc ra rc ba bc) (hF : Ints w.heap.size w F (.slice xa F.length xc)) :
    Calls Try.prog 4 #[tv T fa fc ra rc ba bc, .int .i64 q, .slice xa F.length xc] w fun e w' => e = .returned (.bool true) ∧ Below w.heap.size w w' := by
  have hB := below_new w (.cells #[.int .i64 T.lits, .slice fa T.foes.length fc, .slice ra T.rules.length rc, .slice ba T.beats.length bc] 27)
  have hX := heap_alloc_new w (.cells #[.int .i64 T.lits, .slice fa T.foes.length fc, .slice ra T.rules.length rc, .slice ba T.beats.length bc] 27)
  have hrl := h.rules.lim
  have HT := hide (TR.go hB h)
  have HF := hide (Ints.go hB hF)
  have HB := hide hB
  have HX := hide hX
  clear h hB hF
  go_enter Try.func4, Try.ntmps4
  go_upto_region 1 with fail
  generalize w.alloc (.cells #[.int .i64 T.lits, .slice fa T.foes.length fc, .slice ra T.rules.length rc, .slice ba T.beats.length bc] 27) = W at *
  obtain ⟨-, c0, c1, c2, c3⟩ := Bt.of hX
  clear hX
  have HXz := hide (fun X (hX : Below W.heap.size W X) => (hX.block _ (loc_lt HX.out)).trans HX.out)
  have C1 := hide (For_any (q := q) HT.out)
  have hfl := Nat.le_trans (forX_len (T := T) (E := q)) hrl
  obtain ⟨fx, hfx⟩ : ∃ l, forX T q = l := ⟨_, rfl⟩
  obtain ⟨fe, hfe⟩ : ∃ l, forE T q = l := ⟨_, rfl⟩
  rw [hfx, hfe] at C1
  rw [hfx] at hfl
  have HFX := hide hfx
  have HFE := hide hfe
  clear hfx hfe
  go_upto_region 2 with (go_at_call 12; refine C1.out.mono ?_; rintro _ w1 ⟨a1, d1, rfl, h1, hw⟩; have H1 := hide h1; have HW1 := hide hw; clear h1 hw)
  clear c0 c1 c2 c3 C1
  obtain ⟨-, c0, c1, c2, c3⟩ := Bt.of (HXz.out _ HW1.out)
  have C2 := hide (rFor_any (q := q) (TR.go HW1.out HT.out))
  rw [HFX.out, HFE.out] at C2
  go_upto_region 3 with (go_at_call 13; refine C2.out.mono ?_; rintro _ w2 ⟨a2, d2, rfl, h2, hw⟩; have H2 := hide h2; have H12 := hide (H1.out.below hw); have HW2 := hide (HW1.out.trans (hw.mono HW1.out.size)); clear h2 hw)
  clear c0 c1 c2 c3 C2 H1 HW1 HFX HFE
  obtain ⟨-, c0, c1, c2, c3⟩ := Bt.of (HXz.out _ HW2.out)
  obtain ⟨pv, hpv⟩ : ∃ z, pairV T = z := ⟨_, rfl⟩
  obtain ⟨lv, hlv⟩ : ∃ z, litV T = z := ⟨_, rfl⟩
  obtain ⟨mv, hmv⟩ : ∃ z, premV T = z := ⟨_, rfl⟩
  obtain ⟨ce, hce⟩ : ∃ z, (checkM T).1 = z := ⟨_, rfl⟩
  have HE := hide (And.intro hpv (And.intro hlv (And.intro hmv hce)))
  clear hpv hlv hmv hce
  have C3 := hide (Pairs_any (TR.go HW2.out HT.out))
  rw [HE.out.1, HE.out.2.2.2] at C3
  go_upto_region 4 with (go_at_call 14; refine C3.out.mono ?_; rintro _ w3 ⟨rfl, hw⟩; have H13 := hide (H12.out.below hw); have H23 := hide (H2.out.below hw); have HW3 := hide (HW2.out.trans (hw.mono HW2.out.size)); clear hw)
  clear c0 c1 c2 c3 C3 H12 H2 HW2
  obtain ⟨-, c0, c1, c2, c3⟩ := Bt.of (HXz.out _ HW3.out)
  have C4 := hide (rPairs_any (TR.go HW3.out HT.out))
  rw [HE.out.1, HE.out.2.2.2] at C4
  go_upto_region 5 with (go_at_call 15; refine C4.out.mono ?_; rintro _ w4 ⟨rfl, hw⟩; have H14 := hide (H13.out.below hw); have H24 := hide (H23.out.below hw); have HW4 := hide (HW3.out.trans (hw.mono HW3.out.size)); clear hw)
  clear c0 c1 c2 c3 C4 H13 H23 HW3
  obtain ⟨-, c0, c1, c2, c3⟩ := Bt.of (HXz.out _ HW4.out)
  have C5 := hide (Size_any (TR.go HW4.out HT.out))
  rw [HE.out.1, HE.out.2.1, HE.out.2.2.1, HE.out.2.2.2] at C5
  go_upto_region 6 with (go_at_call 16; refine C5.out.mono ?_; rintro _ w5 ⟨rfl, hw⟩; have H15 := hide (H14.out.below hw); have H25 := hide (H24.out.below hw); have HW5 := hide (HW4.out.trans (hw.mono HW4.out.size)); clear hw)
  clear c0 c1 c2 c3 C5 H14 H24 HW4
  obtain ⟨-, c0, c1, c2, c3⟩ := Bt.of (HXz.out _ HW5.out)
  have C6 := hide (rSize_any (TR.go HW5.out HT.out))
  rw [HE.out.1, HE.out.2.1, HE.out.2.2.1, HE.out.2.2.2] at C6
  go_upto_region 7 with (go_at_call 17; refine C6.out.mono ?_; rintro _ w6 ⟨rfl, hw⟩; have H16 := hide (H15.out.below hw); have H26 := hide (H25.out.below hw); have HW6 := hide (HW5.out.trans (hw.mono HW5.out.size)); clear hw)
  clear c0 c1 c2 c3 C6 H15 H25 HW5
  obtain ⟨-, c0, c1, c2, c3⟩ := Bt.of (HXz.out _ HW6.out)
  have C7 : Hid (Calls Try.prog 18 #[tv T fa fc ra rc ba bc, .slice xa F.length xc] w6 fun e w' => ∃ L E a c, CX T F L E ∧ e = .returned (.tuple #[.slice a L.length c, .int .i64 E]) ∧ At1 w' a (ints L) ∧ Below w6.heap.size w6 w') := hide ((cone_any (TR.go HW6.out HT.out) (Ints.go HW6.out HF.out)).mono fun e w' h => by
    obtain ⟨L, E, a, c, k1, k2, k3⟩ := cx_of h.1
    exact ⟨L, E, a, c, k1, k2, k3, h.2⟩)
  go_upto_region 8 with (go_at_call 18; refine C7.out.mono ?_; rintro _ w7 ⟨L, E, a7, d7, hcx, rfl, h7, hw⟩; have HCX := hide hcx; have H7 := hide h7; have H17 := hide (H16.out.below hw); have H27 := hide (H26.out.below hw); have HW7 := hide (HW6.out.trans (hw.mono HW6.out.size)); clear hcx h7 hw)
  clear c0 c1 c2 c3 C7 H16 H26 HW6
  obtain ⟨-, c0, c1, c2, c3⟩ := Bt.of (HXz.out _ HW7.out)
  have C8 : Hid (Calls Try.prog 19 #[tv T fa fc ra rc ba bc, .slice xa F.length xc] w7 fun e w' => ∃ a c, e = .returned (.tuple #[.slice a L.length c, .int .i64 E]) ∧ At1 w' a (ints L) ∧ Below w7.heap.size w7 w') := hide ((rCone_any (TR.go HW7.out HT.out) (Ints.go HW7.out HF.out)).mono fun e w' h => by
    obtain ⟨L', E', a, c, k1, k2, k3⟩ := rcx_of h.1
    obtain ⟨rfl, rfl⟩ := cx_one HCX.out k1
    exact ⟨a, c, k2, k3, h.2⟩)
  have hLl := Nat.le_trans (cx_len HCX.out) (show 4096 ≤ 140737488351232 by decide)
  go_upto_region 9 with (go_at_call 19; refine C8.out.mono ?_; rintro _ w8 ⟨a8, d8, rfl, h8, hw⟩; have H8 := hide h8; have H78 := hide (H7.out.below hw); have H18 := hide (H17.out.below hw); have H28 := hide (H27.out.below hw); have HW8 := hide (HB.out.trans ((HW7.out.trans (hw.mono HW7.out.size)).mono HB.out.size)); clear h8 hw)
  clear c0 c1 c2 c3 C8 H17 H27 HW7 H7 HCX HX HXz HT HF HB HE
  have CS1 := hide (fun X (hX : Below w8.heap.size w8 X) => sameInts_yes (c := d1) (d := d2) (H18.out.below hX) (H28.out.below hX) hfl)
  have CS2 := hide (fun X (hX : Below w8.heap.size w8 X) => sameInts_yes (c := d7) (d := d8) (H78.out.below hX) (H8.out.below hX) hLl)
  have CN := hide fun (X : World) (c : Int) => num_q X c
  have CW := hide fun (X : World) => works_any X
  have e1 : (fe == fe) = true := by simp
  have e2 : (pv == pv) = true := by simp
  have e3 : (lv == lv) = true := by simp
  have e4 : (mv == mv) = true := by simp
  have e5 : (ce == ce) = true := by simp
  have e6 : (E == E) = true := by simp
  go_wp2_with (go_at_call 20; refine (CS1.out _ (Below.refl _ _)).mono ?_; rintro _ x1 ⟨rfl, hx1⟩; clear H18 H28 CS1)
  have HX1 := hide hx1
  clear hx1
  go_wp2_with (go_at_call 9; refine (CN.out _ _).mono ?_; rintro _ x2 ⟨rfl, hx2⟩; subst x2)
  go_wp2_with (go_at_call 20; refine (CS2.out _ HX1.out).mono ?_; rintro _ x3 ⟨rfl, hx3⟩; have HX3 := hide (HX1.out.trans (hx3.mono HX1.out.size)); clear H78 H8 CS2 hx3)
  go_wp2_with (go_at_call 9; refine (CN.out _ _).mono ?_; rintro _ x2 ⟨rfl, hx2⟩; subst x2)
  go_wp2_with (go_at_call 11; refine (CW.out _).mono ?_; rintro _ x4 ⟨rfl, hx4⟩; have HX4 := hide (HX3.out.trans (hx4.mono HX3.out.size)); clear hx4)
  go_ret
  exact ⟨rfl, HW8.out.trans (HX4.out.mono HW8.out.size)⟩
end Go.Proofs.Ytdmnoeooljofcaa.Rf
