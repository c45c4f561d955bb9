import Derived.Test.YtmlhcncagdfjfaaGreatSok
import Derived.Test.YtmlhcncagdfjfaaGreatDrU
set_option maxRecDepth 100000
set_option maxHeartbeats 3200000
namespace Go.Proofs.YtmlhcncagdfjfaaGreat.Fa
open Go.RowKit
section
variable {w : World} {T : Th} {F : List Int} {fa ra ba ea : Option Addr} {fc rc bc ec : Nat}
theorem jO (hF : Ints w.heap.size w F (.slice ea F.length ec)) :
    Calls Tryz.prog 62 #[tv T fa fc ra rc ba bc, .slice ea F.length ec] w fun e w' => e = .returned (.int .i64 (if cM F T.lits then 0 else 181)) ∧ Below w.heap.size w w' := by
 have hB := ac w (.cells #[.int .i64 T.lits, .slice fa T.foes.length fc, .slice ra T.rules.length rc, .slice ba T.beats.length bc] 25)
 have hX := heap_alloc_new w (.cells #[.int .i64 T.lits, .slice fa T.foes.length fc, .slice ra T.rules.length rc, .slice ba T.beats.length bc] 25)
 have HF := hide (Ints.go hB hF)
 have hl := hF.lim
 obtain ⟨b, hb⟩ : ∃ b, cM F T.lits = b := ⟨_, rfl⟩
 have CR := hide (ip (c := ec) HF.out.at1 hl T.lits)
 rw [hb] at CR ⊢
 have HB := hide hB
 clear hB hF hb
 go_enter Tryz.func62, Tryz.ntmps62
 go_upto_region 1 with fail
 generalize w.alloc (.cells #[.int .i64 T.lits, .slice fa T.foes.length fc, .slice ra T.rules.length rc, .slice ba T.beats.length bc] 25) = W at *
 obtain ⟨-, c0, c1, c2, c3⟩ := Bt.of hX
 clear hX
 cases b with
 | true =>
  go_wp2_with (go_at_call 101; refine CR.out.mono ?_; rintro _ w2 ⟨rfl, rfl⟩)
  go_ret
  exact ⟨rfl, HB.out⟩
 | false =>
  go_wp2_with (go_at_call 101; refine CR.out.mono ?_; rintro _ w2 ⟨rfl, rfl⟩)
  go_ret
  exact ⟨rfl, HB.out⟩
theorem tN (h : TA w.heap.size w T fa fc ra rc ba bc) (hF : Ints w.heap.size w F (.slice ea F.length ec)) :
    Calls Tryz.prog 130 #[tv T fa fc ra rc ba bc, .slice ea F.length ec] w fun e w' => e = .returned (.int .i64 (dQ T F)) ∧ Below w.heap.size w w' := by
 have hB := ac w (.cells #[.int .i64 T.lits, .slice fa T.foes.length fc, .slice ra T.rules.length rc, .slice ba T.beats.length bc] 25)
 have hX := heap_alloc_new w (.cells #[.int .i64 T.lits, .slice fa T.foes.length fc, .slice ra T.rules.length rc, .slice ba T.beats.length bc] 25)
 have HF := hide (Ints.go hB hF)
 have hL := TR.go hB h
 have CC := hide (check_any hL)
 have HB := hide hB
 have HX := hide hX
 obtain ⟨e0, p0, Ac⟩ : ∃ a b, dT T = (a, b) := ⟨_, _, rfl⟩
 rw [Ac] at CC
 unfold jl at CC
 simp only at CC
 have HE : Hid ((dT T).1 = e0) := hide (by rw [Ac])
 clear h hB hL Ac hF
 go_enter Tryz.func130, Tryz.ntmps130
 go_upto_region 1 with fail
 generalize w.alloc (.cells #[.int .i64 T.lits, .slice fa T.foes.length fc, .slice ra T.rules.length rc, .slice ba T.beats.length bc] 25) = W at *
 obtain ⟨-, c0, c1, c2, c3⟩ := Bt.of hX
 clear hX
 by_cases ha : e0 = 0
 · subst ha
   go_upto_region 4 with (go_at_call 38; refine CC.out.mono ?_; rintro _ w1 ⟨rfl, Aa⟩; have Ab := hide (HB.out.trans (Aa.mono HB.out.size)); have Ae := hide (Ints.go Aa HF.out); have Ag := hide ((Aa.block _ (aS HX.out)).trans HX.out); clear Aa)
   clear c0 c1 c2 c3 CC HB HX HF
   obtain ⟨-, c0, c1, c2, c3⟩ := Bt.of Ag.out
   have CF := hide (jO (T := T) (fa := fa) (fc := fc) (ra := ra) (rc := rc) (ba := ba) (bc := bc) Ae.out)
   obtain ⟨v, hv⟩ : ∃ v, (if cM F T.lits then (0 : Int) else 181) = v := ⟨_, rfl⟩
   have HV := hide hv
   rw [hv] at CF
   clear hv
   go_wp2_with (go_at_call 62; refine CF.out.mono ?_; rintro _ w2 ⟨rfl, Ad⟩; have Af := hide (Ab.out.trans (Ad.mono Ab.out.size)); clear Ad)
   go_ret
   refine ⟨?_, Af.out⟩
   unfold dQ
   rw [HE.out, if_neg (by decide), HV.out]
   rfl
 · have Ai : (e0 != 0) = true := by simpa using ha
   have Ah : Hid (dQ T F = e0) := hide (by unfold dQ; rw [HE.out, if_pos ha])
   go_wp2_with (go_at_call 38; refine CC.out.mono ?_; rintro _ w1 ⟨rfl, Aa⟩; have Ab := hide (HB.out.trans (Aa.mono HB.out.size)); clear Aa)
   go_ret
   exact ⟨by rw [Ah.out]; rfl, Ab.out⟩
end
end Go.Proofs.YtmlhcncagdfjfaaGreat.Fa
set_option maxRecDepth 100000
set_option maxHeartbeats 6400000
namespace Go.Proofs.YtmlhcncagdfjfaaGreat.De
open Go.RowKit Fa
section
variable {w : World} {T : Th} {F : List Int} {fa ra ba ea : Option Addr} {fc rc bc ec : Nat}
theorem np (h : TA w.heap.size w T fa fc ra rc ba bc) (hF : Ints w.heap.size w F (.slice ea F.length ec)) :
    Calls Tryz.prog 31 #[tv T fa fc ra rc ba bc, .slice ea F.length ec] w fun e w' => e = .returned (.int .i64 (dQ T F)) ∧ Below w.heap.size w w' := by
 have hB := ac w (.cells #[.int .i64 T.lits, .slice fa T.foes.length fc, .slice ra T.rules.length rc, .slice ba T.beats.length bc] 25)
 have hX := heap_alloc_new w (.cells #[.int .i64 T.lits, .slice fa T.foes.length fc, .slice ra T.rules.length rc, .slice ba T.beats.length bc] 25)
 have HF := hide (Ints.go hB hF)
 have hL := TR.go hB h
 have CC := hide (YtmlhcncagdfjfaaGreat.check_any hL)
 have HB := hide hB
 have HX := hide hX
 obtain ⟨e0, p0, Ac⟩ : ∃ a b, dT T = (a, b) := ⟨_, _, rfl⟩
 rw [Ac] at CC
 unfold jl at CC
 simp only at CC
 have HE : Hid ((dT T).1 = e0) := hide (by rw [Ac])
 clear h hB hL Ac hF
 go_enter Tryz.func31, Tryz.ntmps31
 go_upto_region 1 with fail
 generalize w.alloc (.cells #[.int .i64 T.lits, .slice fa T.foes.length fc, .slice ra T.rules.length rc, .slice ba T.beats.length bc] 25) = W at *
 obtain ⟨-, c0, c1, c2, c3⟩ := Bt.of hX
 clear hX
 by_cases ha : e0 = 0
 · subst ha
   go_upto_region 4 with (go_at_call 38; refine CC.out.mono ?_; rintro _ w1 ⟨rfl, Aa⟩; have Ab := hide (HB.out.trans (Aa.mono HB.out.size)); have Ae := hide (Ints.go Aa HF.out); have Ag := hide ((Aa.block _ (aS HX.out)).trans HX.out); clear Aa)
   clear c0 c1 c2 c3 CC HB HX HF
   obtain ⟨-, c0, c1, c2, c3⟩ := Bt.of Ag.out
   have CF := hide (jO (T := T) (fa := fa) (fc := fc) (ra := ra) (rc := rc) (ba := ba) (bc := bc) Ae.out)
   obtain ⟨v, hv⟩ : ∃ v, (if cM F T.lits then (0 : Int) else 181) = v := ⟨_, rfl⟩
   have HV := hide hv
   rw [hv] at CF
   clear hv
   go_wp2_with (go_at_call 62; refine CF.out.mono ?_; rintro _ w2 ⟨rfl, Ad⟩; have Af := hide (Ab.out.trans (Ad.mono Ab.out.size)); clear Ad)
   go_ret
   refine ⟨?_, Af.out⟩
   unfold dQ
   rw [HE.out, if_neg (by decide), HV.out]
   rfl
 · have Ai : (e0 != 0) = true := by simpa using ha
   have Ah : Hid (dQ T F = e0) := hide (by unfold dQ; rw [HE.out, if_pos ha])
   go_wp2_with (go_at_call 38; refine CC.out.mono ?_; rintro _ w1 ⟨rfl, Aa⟩; have Ab := hide (HB.out.trans (Aa.mono HB.out.size)); clear Aa)
   go_ret
   exact ⟨by rw [Ah.out]; rfl, Ab.out⟩
theorem pH (h : TA w.heap.size w T fa fc ra rc ba bc) (hF : Ints w.heap.size w F (.slice ea F.length ec)) (h0 : dQ T F = 0) {l : List StM} {la : Option Addr} {lc : Nat} (hl : Sts w.heap.size w l la) :
    Calls Tryz.prog 23 #[tv T fa fc ra rc ba bc, .slice ea F.length ec, .slice la l.length lc] w fun e w' => e = .returned (.tuple #[.int .i64 (chkM T F T.lits.toNat (fun _ => 0) l).1, .int .i64 (chkM T F T.lits.toNat (fun _ => 0) l).2]) ∧ Below w.heap.size w w' := by
 have hB := ac w (.cells #[.int .i64 T.lits, .slice fa T.foes.length fc, .slice ra T.rules.length rc, .slice ba T.beats.length bc] 25)
 have hX := heap_alloc_new w (.cells #[.int .i64 T.lits, .slice fa T.foes.length fc, .slice ra T.rules.length rc, .slice ba T.beats.length bc] 25)
 have CF := hide (np (TR.go hB h) (Ints.go hB hF))
 rw [h0] at CF
 have hp := se h0
 have Ag : w.heap.size ≤ (w.alloc (.cells #[.int .i64 T.lits, .slice fa T.foes.length fc, .slice ra T.rules.length rc, .slice ba T.beats.length bc] 25)).heap.size := hB.size
 have CN : Hid (∀ X, Below w.heap.size w X → w.heap.size ≤ X.heap.size → Calls Tryz.prog 32 #[tv T fa fc ra rc ba bc, .slice ea F.length ec] X fun e w' => ∃ (pq : Nat), e = .returned (ab pq) ∧ Below w.heap.size w w' ∧ Calls Tryz.prog 55 #[ab pq, .slice la l.length lc] w' fun e w2 => e = .returned (.tuple #[.int .i64 (chkM T F T.lits.toNat (fun _ => 0) l).1, .int .i64 (chkM T F T.lits.toNat (fun _ => 0) l).2]) ∧ Below w.heap.size w' w2) := hide fun X hX hs => by
  refine (lm (TR.go hX h) (Ints.go hX hF) hp).mono ?_
  rintro e w' ⟨S, q, g0, g1, g2, mb, fm, sd, pq, rfl, hx, Af, ⟨n1, n2, n3⟩, ⟨m1, m2, m3, m4⟩, hb⟩
  refine ⟨pq, rfl, hX.trans (hb.mono hs), ?_⟩
  have Ai : Sts X.heap.size w' l la := by
   intro i s hi
   have := (hl.keep (w' := w') fun g hg => (hb.block g (by omega)).trans (hX.block g hg)) i s hi
   obtain ⟨g, o, ca, cc, e, hg, c0, c1, c2, c3, c4, Am, hc, i1, i2⟩ := this
   exact ⟨g, o, ca, cc, e, by omega, c0, c1, c2, c3, c4, Am, fun j x hj => by
    obtain ⟨g', o', e', hg', d0, d1⟩ := hc j x hj
    exact ⟨g', o', e', by omega, d0, d1⟩, i1, i2⟩
  refine (check_any (sB hp).1 hx Af n1 m1 Ai (c := lc)).mono ?_
  rintro e2 w2 ⟨rfl, Aj, -⟩
  exact ⟨rfl, Aj.below fun k hk => ⟨by have := hb.size; omega, fun e => by omega⟩⟩
 have HB := hide hB
 have HX := hide hX
 clear h hF hB hp h0 hl Ag
 generalize chkM T F T.lits.toNat (fun _ => 0) l = o at *
 go_enter Tryz.func23, Tryz.ntmps23
 go_upto_region 1 with fail
 generalize w.alloc (.cells #[.int .i64 T.lits, .slice fa T.foes.length fc, .slice ra T.rules.length rc, .slice ba T.beats.length bc] 25) = W at *
 obtain ⟨-, c0, c1, c2, c3⟩ := Bt.of hX
 clear hX
 go_upto_region 4 with (go_at_call 31; refine CF.out.mono ?_; rintro _ w1 ⟨rfl, Aa⟩; have Ac := hide (HB.out.trans (Aa.mono HB.out.size)); have Al := hide ((Aa.block _ (aS HX.out)).trans HX.out); clear Aa)
 clear c0 c1 c2 c3 CF
 obtain ⟨-, c0, c1, c2, c3⟩ := Bt.of Al.out
 have CM := hide (CN.out w1 Ac.out Ac.out.size)
 go_wp2_with (first | (go_at_call 32; refine CM.out.mono ?_; rintro _ w2 ⟨pq, rfl, Ae, Ad⟩; have Ak := hide Ae; have CP := hide Ad; clear Ae Ad) | (go_at_call 55; refine CP.out.mono ?_; rintro _ w3 ⟨rfl, Ab⟩; have Ah := hide (Ak.out.trans (Ab.mono (Nat.le_refl _))); clear Ab))
 go_ret2
 exact ⟨rfl, Ah.out⟩
end
set_option maxRecDepth 100000
set_option maxHeartbeats 3200000
theorem sQ {w : World} {a b : Option Addr} {l m : List (Int × Int)} {c d : Nat} (ha : Chs w a l) (hb : Chs w b m) (hl : l.length ≤ 140737488351232) :
    Calls Tryz.prog 49 #[.slice a l.length c, .slice b m.length d] w fun e w' => e = .returned (.bool (decide (l = m))) ∧ ∃ q, w' = w.drewN q := by
 have HA := hide ha
 have HB := hide hb
 clear ha hb
 by_cases he : l.length = m.length
 · have HE := hide he
   rw [← he]
   clear he
   go_enter Tryz.func49, Tryz.ntmps49
   go_wp2_with fail
   go_loopw [13] (fun x wr => ∃ k : Nat, k ≤ l.length ∧ x = .int .i64 k ∧ Hid (l.take k = m.take k) ∧ Hid (∃ q, wr = w.drewN q)) (fun x _ => l.length - (intOf x).toNat)
   case atStart => exact ⟨0, by omega, rfl, hide (by simp), hide ⟨0, rfl⟩⟩
   case round =>
    obtain ⟨k, hk, rfl, HK, HW⟩ := hrel
    by_cases hlt : k < l.length
    · obtain ⟨⟨x1, x2⟩, hx⟩ := am hlt
      obtain ⟨⟨y1, y2⟩, hy⟩ := am (l := m) (i := k) (by rw [← HE.out]; exact hlt)
      obtain ⟨g, o, rfl, j0, j1⟩ := HA.out k _ hx
      obtain ⟨g2, o2, rfl, i0, i1⟩ := HB.out k _ hy
      have Ag : wr.cell? ⟨g, o + k * 2, none⟩ = some (.int .i64 x1) := by obtain ⟨q, rfl⟩ := HW.out; exact j0
      have Af : wr.cell? ⟨g, o + k * 2 + 1, none⟩ = some (.int .i64 x2) := by obtain ⟨q, rfl⟩ := HW.out; exact j1
      have Ae : wr.cell? ⟨g2, o2 + k * 2, none⟩ = some (.int .i64 y1) := by obtain ⟨q, rfl⟩ := HW.out; exact i0
      have Ad : wr.cell? ⟨g2, o2 + k * 2 + 1, none⟩ = some (.int .i64 y2) := by obtain ⟨q, rfl⟩ := HW.out; exact i1
      have HT := hide (bt hx)
      have Ac := hide (bt hy)
      have Aa : Hid (¬ (x1 = y1 ∧ x2 = y2) → ¬ l = m) := hide (fun h e => h (by subst e; rw [hx] at hy; simpa using hy))
      clear j0 j1 i0 i1 hx hy
      by_cases hs : x1 = y1
      · subst hs
        by_cases hs2 : x2 = y2
        · subst hs2
          go_wp2_with fail
          go_quiet (fail)
          go_wp2_with fail
          go_roundw
          case rel => exact ⟨k + 1, by omega, by go_num, hide (by rw [HT.out, Ac.out, HK.out]), hide (by obtain ⟨q, rfl⟩ := HW.out; exact ⟨_, World.drewN_drewN _ _ _⟩)⟩
          case measure => simp [intOf]; omega
        · have HF := hide (Aa.out fun h => hs2 h.2)
          have Ab : (x2 == y2) = false := beq_eq_false_iff_ne.2 hs2
          clear Aa
          go_wp2_with fail
          go_quiet (fail)
          go_wp2_with fail
          go_ret
          exact ⟨ret_bool (by rw [decide_eq_false HF.out]), by obtain ⟨q, rfl⟩ := HW.out; exact ⟨_, World.drewN_drewN _ _ _⟩⟩
      · have HF := hide (Aa.out fun h => hs h.1)
        have Ab : (x1 == y1) = false := beq_eq_false_iff_ne.2 hs
        clear Aa
        go_wp2_with fail
        go_quiet (fail)
        go_wp2_with fail
        go_ret
        exact ⟨ret_bool (by rw [decide_eq_false HF.out]), by obtain ⟨q, rfl⟩ := HW.out; exact ⟨_, World.drewN_drewN _ _ _⟩⟩
    · have HF : Hid (l = m) := by
       have := HK.out
       rw [List.take_of_length_le (by omega), List.take_of_length_le (by have := HE.out; omega)] at this
       exact this
      go_wp2_with fail
      go_ret
      exact ⟨ret_bool (by rw [decide_eq_true HF.out]), HW.out⟩
 · have HF : Hid (¬ l = m) := hide (fun e => he (by rw [e]))
   generalize l.length = x at *
   generalize m.length = y at *
   have Ab : ¬ ((x : Int) = y) := by omega
   go_enter Tryz.func49, Tryz.ntmps49
   go_wp2_with fail
   go_ret
   exact ⟨ret_bool (by rw [decide_eq_false HF.out]), 0, rfl⟩
set_option maxRecDepth 100000
set_option maxHeartbeats 6400000
theorem sC {w : World} {a b : Option Addr} {l m : List (Int × Int)} {c d : Nat} (ha : Chs w a l) (hb : Chs w b m) (hl : l.length ≤ 140737488351232) :
    Calls Tryz.prog 52 #[.slice a l.length c, .slice b m.length d] w fun e w' => e = .returned (.bool (decide (l = m))) ∧ ∃ q, w' = w.drewN q := by
 have HA := hide ha
 have HB := hide hb
 clear ha hb
 by_cases he : l.length = m.length
 · have HE := hide he
   rw [← he]
   clear he
   go_enter Tryz.func52, Tryz.ntmps52
   go_wp2_with fail
   go_loopw [5] (fun x wr => ∃ k : Nat, k ≤ l.length ∧ x = .int .i64 k ∧ Hid (l.take k = m.take k) ∧ Hid (∃ q, wr = w.drewN q)) (fun x _ => l.length - (intOf x).toNat)
   case atStart => exact ⟨0, by omega, rfl, hide (by simp), hide ⟨0, rfl⟩⟩
   case round =>
    obtain ⟨k, hk, rfl, HK, HW⟩ := hrel
    by_cases hlt : k < l.length
    · obtain ⟨⟨x1, x2⟩, hx⟩ := am hlt
      obtain ⟨⟨y1, y2⟩, hy⟩ := am (l := m) (i := k) (by rw [← HE.out]; exact hlt)
      obtain ⟨g, o, rfl, j0, j1⟩ := HA.out k _ hx
      obtain ⟨g2, o2, rfl, i0, i1⟩ := HB.out k _ hy
      have Ag : wr.cell? ⟨g, o + k * 2, none⟩ = some (.int .i64 x1) := by obtain ⟨q, rfl⟩ := HW.out; exact j0
      have Af : wr.cell? ⟨g, o + k * 2 + 1, none⟩ = some (.int .i64 x2) := by obtain ⟨q, rfl⟩ := HW.out; exact j1
      have Ae : wr.cell? ⟨g2, o2 + k * 2, none⟩ = some (.int .i64 y1) := by obtain ⟨q, rfl⟩ := HW.out; exact i0
      have Ad : wr.cell? ⟨g2, o2 + k * 2 + 1, none⟩ = some (.int .i64 y2) := by obtain ⟨q, rfl⟩ := HW.out; exact i1
      have HT := hide (bt hx)
      have Ac := hide (bt hy)
      have Aa : Hid (¬ (x1 = y1 ∧ x2 = y2) → ¬ l = m) := hide (fun h e => h (by subst e; rw [hx] at hy; simpa using hy))
      clear j0 j1 i0 i1 hx hy
      by_cases hs : x1 = y1
      · subst hs
        by_cases hs2 : x2 = y2
        · subst hs2
          go_wp2_with fail
          go_quiet (fail)
          go_wp2_with fail
          go_roundw
          case rel => exact ⟨k + 1, by omega, by go_num, hide (by rw [HT.out, Ac.out, HK.out]), hide (by obtain ⟨q, rfl⟩ := HW.out; exact ⟨_, World.drewN_drewN _ _ _⟩)⟩
          case measure => simp [intOf]; omega
        · have HF := hide (Aa.out fun h => hs2 h.2)
          have Ab : (x2 == y2) = false := beq_eq_false_iff_ne.2 hs2
          clear Aa
          go_wp2_with fail
          go_quiet (fail)
          go_wp2_with fail
          go_ret
          exact ⟨ret_bool (by rw [decide_eq_false HF.out]), by obtain ⟨q, rfl⟩ := HW.out; exact ⟨_, World.drewN_drewN _ _ _⟩⟩
      · have HF := hide (Aa.out fun h => hs h.1)
        have Ab : (x1 == y1) = false := beq_eq_false_iff_ne.2 hs
        clear Aa
        go_wp2_with fail
        go_quiet (fail)
        go_wp2_with fail
        go_ret
        exact ⟨ret_bool (by rw [decide_eq_false HF.out]), by obtain ⟨q, rfl⟩ := HW.out; exact ⟨_, World.drewN_drewN _ _ _⟩⟩
    · have HF : Hid (l = m) := by
       have := HK.out
       rw [List.take_of_length_le (by omega), List.take_of_length_le (by have := HE.out; omega)] at this
       exact this
      go_wp2_with fail
      go_ret
      exact ⟨ret_bool (by rw [decide_eq_true HF.out]), HW.out⟩
 · have HF : Hid (¬ l = m) := hide (fun e => he (by rw [e]))
   generalize l.length = x at *
   generalize m.length = y at *
   have Ab : ¬ ((x : Int) = y) := by omega
   go_enter Tryz.func52, Tryz.ntmps52
   go_wp2_with fail
   go_ret
   exact ⟨ret_bool (by rw [decide_eq_false HF.out]), 0, rfl⟩
theorem vz {w : World} {t q h r t2 q2 h2 r2 : Int} {ch dh : List (Int × Int)} {ca cb : Option Addr} {cc cd : Nat} (ha : Chs w ca ch) (hb : Chs w cb dh) (hl : ch.length ≤ 140737488351232) :
    Calls Tryz.prog 17 #[fT ⟨t, q, h, r, ch⟩ ca cc, fT ⟨t2, q2, h2, r2, dh⟩ cb cd] w fun e w' => e = .returned (.bool (decide ((⟨t, q, h, r, ch⟩ : StM) = ⟨t2, q2, h2, r2, dh⟩))) ∧ Below w.heap.size w w' := by
 have Ac := ac w (.cells #[.int .i64 t, .int .i64 q, .int .i64 h, .int .i64 r, .slice ca ch.length cc] 32)
 have Ab := ac (w.alloc (.cells #[.int .i64 t, .int .i64 q, .int .i64 h, .int .i64 r, .slice ca ch.length cc] 32)) (.cells #[.int .i64 t2, .int .i64 q2, .int .i64 h2, .int .i64 r2, .slice cb dh.length cd] 32)
 have hB := Ac.trans (Ab.mono Ac.size)
 have hx : Fx w.heap.size 32 [.int .i64 t, .int .i64 q, .int .i64 h, .int .i64 r, .slice ca ch.length cc] ((w.alloc (.cells #[.int .i64 t, .int .i64 q, .int .i64 h, .int .i64 r, .slice ca ch.length cc] 32)).alloc (.cells #[.int .i64 t2, .int .i64 q2, .int .i64 h2, .int .i64 r2, .slice cb dh.length cd] 32)) := (Ab.block _ (by simp)).trans (heap_alloc_new w (.cells #[.int .i64 t, .int .i64 q, .int .i64 h, .int .i64 r, .slice ca ch.length cc] 32))
 have hy : Fx (w.heap.size + 1) 32 [.int .i64 t2, .int .i64 q2, .int .i64 h2, .int .i64 r2, .slice cb dh.length cd] ((w.alloc (.cells #[.int .i64 t, .int .i64 q, .int .i64 h, .int .i64 r, .slice ca ch.length cc] 32)).alloc (.cells #[.int .i64 t2, .int .i64 q2, .int .i64 h2, .int .i64 r2, .slice cb dh.length cd] 32)) := by
  have := heap_alloc_new (w.alloc (.cells #[.int .i64 t, .int .i64 q, .int .i64 h, .int .i64 r, .slice ca ch.length cc] 32)) (.cells #[.int .i64 t2, .int .i64 q2, .int .i64 h2, .int .i64 r2, .slice cb dh.length cd] 32)
  simpa [Fx] using this
 have HA := hide (Chs.go ha hB)
 have Ae := hide (Chs.go hb hB)
 have HB := hide hB
 have x0 := hx.get (i := 0) rfl
 have x1 := hx.get (i := 1) rfl
 have x2 := hx.get (i := 2) rfl
 have x3 := hx.get (i := 3) rfl
 have x4 := hx.get (i := 4) rfl
 have y0 := hy.get (i := 0) rfl
 have y1 := hy.get (i := 1) rfl
 have y2 := hy.get (i := 2) rfl
 have y3 := hy.get (i := 3) rfl
 have y4 := hy.get (i := 4) rfl
 clear ha hb Ac Ab hB hx hy
 show Calls Tryz.prog 17 #[.agg #[.int .i64 t, .int .i64 q, .int .i64 h, .int .i64 r, .slice ca ch.length cc], .agg #[.int .i64 t2, .int .i64 q2, .int .i64 h2, .int .i64 r2, .slice cb dh.length cd]] w _
 have CE := hide (sQ (c := cc) (d := cd) HA.out Ae.out hl)
 have Ad : Hid (decide ((⟨t, q, h, r, ch⟩ : StM) = ⟨t2, q2, h2, r2, dh⟩) = (decide (t = t2) && decide (q = q2) && decide (h = h2) && decide (r = r2) && decide (ch = dh))) := hide (by simp [StM.mk.injEq, Bool.and_assoc])
 rw [Ad.out]
 clear Ad
 generalize decide (ch = dh) = eb at *
 go_enter Tryz.func17, Tryz.ntmps17
 go_upto_region 1 with fail
 generalize ((w.alloc (.cells #[.int .i64 t, .int .i64 q, .int .i64 h, .int .i64 r, .slice ca ch.length cc] 32)).alloc (.cells #[.int .i64 t2, .int .i64 q2, .int .i64 h2, .int .i64 r2, .slice cb dh.length cd] 32)) = W at *
 by_cases e0 : t = t2
 · subst e0
   by_cases e1 : q = q2
   · subst e1
     by_cases e2 : h = h2
     · subst e2
       by_cases e3 : r = r2
       · subst e3
         go_wp2_with (go_at_call 49; refine CE.out.mono ?_; rintro _ w3 ⟨rfl, n3, rfl⟩)
         go_ret
         exact ⟨ret_bool (by simp), HB.out.trans ((ak W n3).mono HB.out.size)⟩
       · have Aa : (r == r2) = false := beq_eq_false_iff_ne.2 e3
         go_wp2_with fail
         go_ret
         exact ⟨ret_bool (by simp [e3]), HB.out⟩
     · have Aa : (h == h2) = false := beq_eq_false_iff_ne.2 e2
       go_wp2_with fail
       go_ret
       exact ⟨ret_bool (by simp [e2]), HB.out⟩
   · have Aa : (q == q2) = false := beq_eq_false_iff_ne.2 e1
     go_wp2_with fail
     go_ret
     exact ⟨ret_bool (by simp [e1]), HB.out⟩
 · have Aa : (t == t2) = false := beq_eq_false_iff_ne.2 e0
   go_wp2_with fail
   go_ret
   exact ⟨ret_bool (by simp [e0]), HB.out⟩
theorem pW {w : World} {t q h r t2 q2 h2 r2 : Int} {ch dh : List (Int × Int)} {ca cb : Option Addr} {cc cd : Nat} (ha : Chs w ca ch) (hb : Chs w cb dh) (hl : ch.length ≤ 140737488351232) :
    Calls Tryz.prog 21 #[fT ⟨t, q, h, r, ch⟩ ca cc, fT ⟨t2, q2, h2, r2, dh⟩ cb cd] w fun e w' => e = .returned (.bool (decide ((⟨t, q, h, r, ch⟩ : StM) = ⟨t2, q2, h2, r2, dh⟩))) ∧ Below w.heap.size w w' := by
 have Ac := ac w (.cells #[.int .i64 t, .int .i64 q, .int .i64 h, .int .i64 r, .slice ca ch.length cc] 32)
 have Ab := ac (w.alloc (.cells #[.int .i64 t, .int .i64 q, .int .i64 h, .int .i64 r, .slice ca ch.length cc] 32)) (.cells #[.int .i64 t2, .int .i64 q2, .int .i64 h2, .int .i64 r2, .slice cb dh.length cd] 32)
 have hB := Ac.trans (Ab.mono Ac.size)
 have hx : Fx w.heap.size 32 [.int .i64 t, .int .i64 q, .int .i64 h, .int .i64 r, .slice ca ch.length cc] ((w.alloc (.cells #[.int .i64 t, .int .i64 q, .int .i64 h, .int .i64 r, .slice ca ch.length cc] 32)).alloc (.cells #[.int .i64 t2, .int .i64 q2, .int .i64 h2, .int .i64 r2, .slice cb dh.length cd] 32)) := (Ab.block _ (by simp)).trans (heap_alloc_new w (.cells #[.int .i64 t, .int .i64 q, .int .i64 h, .int .i64 r, .slice ca ch.length cc] 32))
 have hy : Fx (w.heap.size + 1) 32 [.int .i64 t2, .int .i64 q2, .int .i64 h2, .int .i64 r2, .slice cb dh.length cd] ((w.alloc (.cells #[.int .i64 t, .int .i64 q, .int .i64 h, .int .i64 r, .slice ca ch.length cc] 32)).alloc (.cells #[.int .i64 t2, .int .i64 q2, .int .i64 h2, .int .i64 r2, .slice cb dh.length cd] 32)) := by
  have := heap_alloc_new (w.alloc (.cells #[.int .i64 t, .int .i64 q, .int .i64 h, .int .i64 r, .slice ca ch.length cc] 32)) (.cells #[.int .i64 t2, .int .i64 q2, .int .i64 h2, .int .i64 r2, .slice cb dh.length cd] 32)
  simpa [Fx] using this
 have HA := hide (Chs.go ha hB)
 have Ae := hide (Chs.go hb hB)
 have HB := hide hB
 have x0 := hx.get (i := 0) rfl
 have x1 := hx.get (i := 1) rfl
 have x2 := hx.get (i := 2) rfl
 have x3 := hx.get (i := 3) rfl
 have x4 := hx.get (i := 4) rfl
 have y0 := hy.get (i := 0) rfl
 have y1 := hy.get (i := 1) rfl
 have y2 := hy.get (i := 2) rfl
 have y3 := hy.get (i := 3) rfl
 have y4 := hy.get (i := 4) rfl
 clear ha hb Ac Ab hB hx hy
 show Calls Tryz.prog 21 #[.agg #[.int .i64 t, .int .i64 q, .int .i64 h, .int .i64 r, .slice ca ch.length cc], .agg #[.int .i64 t2, .int .i64 q2, .int .i64 h2, .int .i64 r2, .slice cb dh.length cd]] w _
 have CE := hide (sC (c := cc) (d := cd) HA.out Ae.out hl)
 have Ad : Hid (decide ((⟨t, q, h, r, ch⟩ : StM) = ⟨t2, q2, h2, r2, dh⟩) = (decide (t = t2) && decide (q = q2) && decide (h = h2) && decide (r = r2) && decide (ch = dh))) := hide (by simp [StM.mk.injEq, Bool.and_assoc])
 rw [Ad.out]
 clear Ad
 generalize decide (ch = dh) = eb at *
 go_enter Tryz.func21, Tryz.ntmps21
 go_upto_region 1 with fail
 generalize ((w.alloc (.cells #[.int .i64 t, .int .i64 q, .int .i64 h, .int .i64 r, .slice ca ch.length cc] 32)).alloc (.cells #[.int .i64 t2, .int .i64 q2, .int .i64 h2, .int .i64 r2, .slice cb dh.length cd] 32)) = W at *
 by_cases e0 : t = t2
 · subst e0
   by_cases e1 : q = q2
   · subst e1
     by_cases e2 : h = h2
     · subst e2
       by_cases e3 : r = r2
       · subst e3
         go_wp2_with (go_at_call 52; refine CE.out.mono ?_; rintro _ w3 ⟨rfl, n3, rfl⟩)
         go_ret
         exact ⟨ret_bool (by simp), HB.out.trans ((ak W n3).mono HB.out.size)⟩
       · have Aa : (r == r2) = false := beq_eq_false_iff_ne.2 e3
         go_wp2_with fail
         go_ret
         exact ⟨ret_bool (by simp [e3]), HB.out⟩
     · have Aa : (h == h2) = false := beq_eq_false_iff_ne.2 e2
       go_wp2_with fail
       go_ret
       exact ⟨ret_bool (by simp [e2]), HB.out⟩
   · have Aa : (q == q2) = false := beq_eq_false_iff_ne.2 e1
     go_wp2_with fail
     go_ret
     exact ⟨ret_bool (by simp [e1]), HB.out⟩
 · have Aa : (t == t2) = false := beq_eq_false_iff_ne.2 e0
   go_wp2_with fail
   go_ret
   exact ⟨ret_bool (by simp [e0]), HB.out⟩
section
variable {w : World} {T : Th} {F : List Int} {fa ra ba ea ca : Option Addr} {fc rc bc ec cc : Nat} {tag lit how rule : Int} {ch : List (Int × Int)}
theorem ChN.keep {N : Nat} {w w' : World} {a : Option Addr} {l : List (Int × Int)} (h : ChN N w a l) (hk : ∀ g, g < N → w'.heap[g]? = w.heap[g]?) : ChN N w' a l := fun i x hi => by
 obtain ⟨g, o, e, hg, c0, c1⟩ := h i x hi
 exact ⟨g, o, e, hg, (World.cell?_of_block (hk g hg)).trans c0, (World.cell?_of_block (hk g hg)).trans c1⟩
end
end Go.Proofs.YtmlhcncagdfjfaaGreat.De
