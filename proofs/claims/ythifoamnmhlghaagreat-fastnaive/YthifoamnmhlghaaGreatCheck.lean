import Derived.Test.YthifoamnmhlghaaGreatKnots
set_option maxRecDepth 100000
set_option maxHeartbeats 12800000
namespace Go.Proofs.YthifoamnmhlghaaGreat
open Go.RowKit
theorem i8 {T : Th} (hb : (dN T).1 = 0) : ∀ (i : Nat) l, T.beats[i]? = some l → ∀ z ∈ l, 0 ≤ z ∧ z < (T.beats.length : Int) := fun i l hl z hz => by
 obtain ⟨b1, b2⟩ := lH hb
 have := (eQ.1 (b2 i l hl).1).1 z hz
 rw [b1]
 omega
theorem kO {w : World} {T : Th} {fa ra ba : Option Addr} {fc rc bc : Nat} (h : TA w.heap.size w T fa fc ra rc ba bc) (hru : (dC T).1 = 0) (hb : (dN T).1 = 0) :
    Calls Tryz.prog 25 #[tv T fa fc ra rc ba bc] w fun e w' => e = .returned (ik (bL T)) ∧ Below w.heap.size w w' := by
 have hB := aa w (.cells #[.int .i64 T.lits, .slice fa T.foes.length fc, .slice ra T.rules.length rc, .slice ba T.beats.length bc] 25)
 have hX := heap_alloc_new w (.cells #[.int .i64 T.lits, .slice fa T.foes.length fc, .slice ra T.rules.length rc, .slice ba T.beats.length bc] 25)
 have hL := TR.go hB h
 have hr4 := (jO hru).1
 have hbl := (lH hb).1
 have CK := hide (nU hL.beats (by omega) (i8 hb))
 obtain ⟨r, hr⟩ : ∃ r, bL T = r := ⟨_, rfl⟩
 obtain ⟨L, hLo⟩ : ∃ L, jP T = L := ⟨_, rfl⟩
 rw [hr]
 unfold bL at hr
 rw [hLo] at hr
 have HR := hide hr
 generalize hks : gP T.beats = ks at *
 have HL0 : Hid ((ks.drop 0).foldl ip T.rules.length = L) := hide (by rw [List.drop_zero, ← hks]; exact hLo)
 have HB := hide hB
 clear h hru hb hB hL hbl hr hLo hks
 go_enter Tryz.func25, Tryz.ntmps25
 go_upto_region 1 with fail
 generalize w.alloc (.cells #[.int .i64 T.lits, .slice fa T.foes.length fc, .slice ra T.rules.length rc, .slice ba T.beats.length bc] 25) = W at *
 obtain ⟨-, c0, c1, c2, c3⟩ := Bt.of hX
 have HX := hide hX
 clear hX
 go_wp2_with (go_at_call 50; refine CK.out.mono ?_; rintro _ w1 ⟨ka, kc, rfl, hk1, hw1⟩; have HX1 := hide (HB.out.trans (hw1.mono HB.out.size)); have HXb := hide ((hw1.block _ (aR HX.out)).trans HX.out); have HKs := hide hk1; have hkl := hk1.lim; clear hw1 hk1)
 clear c0 c1 c2 c3 HX
 go_loop [4, 14] (fun y x => ∃ (k : Nat) (z : Int), k ≤ ks.length ∧ x = .int .i64 k ∧ y = .int .i64 z ∧ Hid ((ks.drop k).foldl ip z = L)) (fun _ x => ks.length - (intOf x).toNat)
 case atStart => exact ⟨0, T.rules.length, by omega, rfl, rfl, HL0⟩
 case round =>
  clear HL0
  obtain ⟨k, z, hk, rfl, rfl, HK⟩ := hrel
  by_cases hlt : k < ks.length
  · obtain ⟨kn, hkn⟩ := ap hlt
    obtain ⟨g, of, a2, d2, rfl, -, kcell, -, hll, hI⟩ := cg HKs.out hkn
    have HN : Hid ((ks.drop (k + 1)).foldl ip (ip z kn) = L) := hide (by have := HK.out; rw [cn hkn, List.foldl_cons] at this; exact this)
    by_cases h1 : 1 < kn.length
    · have CM := hide (sn (c := d2) hI.at1 hll (by omega))
      have HN2 : Hid ((ks.drop (k + 1)).foldl ip (min z (minM kn)) = L) := hide (by have := HN.out; unfold ip at this; rw [if_pos h1] at this; exact this)
      clear HK HN hI hkn
      generalize minM kn = mk at *
      go_wp2_with (go_at_call 51; refine CM.out.mono ?_; rintro _ w2 ⟨rfl, hw⟩; subst w2)
      go_round
      case rel => exact ⟨k + 1, min z mk, by omega, by go_num, by rw [iJ], HN2⟩
      case measure => simp [intOf]; omega
    · have HN2 : Hid ((ks.drop (k + 1)).foldl ip z = L) := hide (by have := HN.out; rw [show ip z kn = z by unfold ip; rw [if_neg h1]] at this; exact this)
      clear HK HN hI hkn
      go_wp2_with fail
      go_round
      case rel => exact ⟨k + 1, z, by omega, by go_num, rfl, HN2⟩
      case measure => simp [intOf]; omega
  · have HN : Hid (z = L) := hide (by have := HK.out; rw [bR (by omega)] at this; exact this)
    obtain ⟨-, c0, c1, c2, c3⟩ := Bt.of HXb.out
    have hL2 := HR.out
    rw [← HN.out] at hL2
    clear HK HN HR
    by_cases hz : z < (T.rules.length : Int)
    · rw [if_pos hz] at hL2
      have HE := hide hL2
      clear hL2
      go_wp2_with fail
      go_ret2
      exact ⟨aZ HE.out, HX1.out⟩
    · rw [if_neg hz] at hL2
      have HE := hide hL2
      clear hL2
      go_wp2_with fail
      go_ret2
      exact ⟨aZ HE.out, HX1.out⟩
def pK (T : Th) : Nat → Int × Int
 | 0 => eh (fh T) (eh (dC T) (eh (fS T) (eh (dN T) (bL T))))
 | 1 => eh (dC T) (eh (fS T) (eh (dN T) (bL T)))
 | 2 => eh (fS T) (eh (dN T) (bL T))
 | 3 => eh (dN T) (bL T)
 | 4 => eh (bL T) (0, 0)
 | _ => (0, 0)
theorem nX {T : Th} (h : (bL T).1 = 0) : bL T = (0, 0) := by
 unfold bL at h ⊢
 split
 · rename_i h1; rw [if_pos h1] at h; cases h
 · rfl
theorem tP {T : Th} : bL T = pK T 4 := by
 show bL T = eh (bL T) (0, 0)
 unfold eh
 split
 · rename_i h; exact nX h
 · rfl
structure nm (T : Th) (k : Nat) (res : Int × Int) : Prop where
 f : 1 ≤ k → (fh T).1 = 0
 r : 2 ≤ k → (dC T).1 = 0
 b : 4 ≤ k → (dN T).1 = 0
 c : pK T k = res
theorem jt {a : Int × Int} {b r : Int × Int} (h : eh a b = r) (ha : a.1 ≠ 0) : a = r := by unfold eh at h; rw [if_neg ha] at h; exact h
theorem jG {a : Int × Int} {b r : Int × Int} (h : eh a b = r) (ha : a.1 = 0) : b = r := by unfold eh at h; rw [if_pos ha] at h; exact h
theorem mz {w : World} {T : Th} {fa ra ba : Option Addr} {fc rc bc : Nat} (h : TA w.heap.size w T fa fc ra rc ba bc) :
    Calls Tryz.prog 14 #[tv T fa fc ra rc ba bc] w fun e w' => e = .returned (ik (dt T)) ∧ Below w.heap.size w w' := by
 have hB := aa w (.cells #[.int .i64 T.lits, .slice fa T.foes.length fc, .slice ra T.rules.length rc, .slice ba T.beats.length bc] 25)
 have hX := heap_alloc_new w (.cells #[.int .i64 T.lits, .slice fa T.foes.length fc, .slice ra T.rules.length rc, .slice ba T.beats.length bc] 25)
 obtain ⟨r, hr⟩ : ∃ r, dt T = r := ⟨_, rfl⟩
 rw [hr]
 unfold dt at hr
 have HB := hide hB
 have HH := hide h
 clear h hB
 by_cases hlit : T.lits < 0 ∨ 4096 < T.lits
 · rw [if_pos hlit] at hr
   have HR := hide hr
   clear hr
   have hl2 : T.lits < 0 ∨ (0 ≤ T.lits ∧ 4096 < T.lits) := by omega
   clear hlit
   go_enter Tryz.func14, Tryz.ntmps14
   go_upto_region 1 with fail
   generalize w.alloc (.cells #[.int .i64 T.lits, .slice fa T.foes.length fc, .slice ra T.rules.length rc, .slice ba T.beats.length bc] 25) = W at *
   obtain ⟨-, c0, c1, c2, c3⟩ := Bt.of hX
   rcases hl2 with h1 | ⟨h1, h2⟩
   all_goals
    go_wp2_with fail
    go_ret2
    exact ⟨aZ HR.out, HB.out⟩
 · rw [if_neg hlit] at hr
   have h0 : 0 ≤ T.lits := by omega
   have h1 : T.lits ≤ 4096 := by omega
   have HS0 : Hid (nm T 0 r) := hide ⟨fun h => by omega, fun h => by omega, fun h => by omega, hr⟩
   clear hr hlit
   go_enter Tryz.func14, Tryz.ntmps14
   go_upto_region 1 with fail
   generalize w.alloc (.cells #[.int .i64 T.lits, .slice fa T.foes.length fc, .slice ra T.rules.length rc, .slice ba T.beats.length bc] 25) = W at *
   obtain ⟨-, c0, c1, c2, c3⟩ := Bt.of hX
   have HX := hide hX
   clear hX
   have hA := aa W (.cells #[.func (.func 21) #[] #[], .func (.func 22) #[] #[], .func (.func 23) #[] #[], .func (.func 24) #[] #[], .func (.func 25) #[] #[]] 58)
   have HF := hide (heap_alloc_new W (.cells #[.func (.func 21) #[] #[], .func (.func 22) #[] #[], .func (.func 23) #[] #[], .func (.func 24) #[] #[], .func (.func 25) #[] #[]] 58))
   have HX2 := hide ((hA.block _ (aR HX.out)).trans HX.out)
   have HB2 := hide (HB.out.trans (hA.mono HB.out.size))
   clear HX hA HB
   go_upto_region 3 with fail
   go_wp2_with fail
   generalize W.alloc (.cells #[.func (.func 21) #[] #[], .func (.func 22) #[] #[], .func (.func 23) #[] #[], .func (.func 24) #[] #[], .func (.func 25) #[] #[]] 58) = W2 at *
   clear c0 c1 c2 c3
   go_loopw [18] (fun x wr => ∃ k : Nat, k ≤ 5 ∧ x = .int .i64 k ∧ Hid (nm T k r) ∧ Hid (Below W2.heap.size W2 wr)) (fun x _ => 5 - (intOf x).toNat)
   case atStart => exact ⟨0, by omega, rfl, HS0, hide (Below.refl _ _)⟩
   case round =>
    clear HS0
    obtain ⟨k, hk, rfl, HS, HW⟩ := hrel
    have hbw := (HW.out.block _ (aR HX2.out)).trans HX2.out
    have hfw := (HW.out.block _ (aR HF.out)).trans HF.out
    obtain ⟨-, c0, c1, c2, c3⟩ := Bt.of hbw
    have f0 := cell_of_row wr _ 0 _ _ _ hfw
    have f1 := cell_of_row wr _ 1 _ _ _ hfw
    have f2 := cell_of_row wr _ 2 _ _ _ hfw
    have f3 := cell_of_row wr _ 3 _ _ _ hfw
    have f4 := cell_of_row wr _ 4 _ _ _ hfw
    simp only [List.getElem?_toArray, List.getElem?_cons_zero, List.getElem?_cons_succ] at f0 f1 f2 f3 f4
    have HBW := hide (HB2.out.trans (HW.out.mono HB2.out.size))
    have HLW := hide (TR.go HBW.out HH.out)
    have HW2 := hide (fun (X : World) (hX : Below wr.heap.size wr X) => HW.out.trans (hX.mono HW.out.size))
    have HBX := hide (fun (X : World) (hX : Below wr.heap.size wr X) => HBW.out.trans (hX.mono HBW.out.size))
    clear hbw hfw
    have hcase : k = 0 ∨ k = 1 ∨ k = 2 ∨ k = 3 ∨ k = 4 ∨ k = 5 := by omega
    rcases hcase with rfl | rfl | rfl | rfl | rfl | rfl
    · obtain ⟨a, b, hab⟩ : ∃ a b, fh T = (a, b) := ⟨_, _, rfl⟩
      have CF := hide (nk HLW.out)
      rw [hab] at CF
      unfold ik at CF
      simp only at CF
      by_cases ha : a = 0
      · have ha0 : (fh T).1 = 0 := by rw [hab]; exact ha
        have HN : Hid (nm T 1 r) := hide ⟨fun _ => ha0, fun h => by omega, fun h => by omega, jG HS.out.c ha0⟩
        subst ha
        clear hab ha0 HS
        go_wp2_with (go_at_call 21; refine CF.out.mono ?_; rintro _ w1 ⟨rfl, hw1⟩; have HX1 := hide (HW2.out w1 hw1); clear hw1)
        go_roundw
        case rel => exact ⟨1, by omega, by go_num, HN, HX1⟩
        case measure => simp [intOf]
      · have HN : Hid ((a, b) = r) := hide (by rw [← hab]; exact jt HS.out.c (by rw [hab]; exact ha))
        have hab2 : (a != 0) = true := by simpa using ha
        clear hab HS
        go_wp2_with (go_at_call 21; refine CF.out.mono ?_; rintro _ w1 ⟨rfl, hw1⟩; have HX1 := hide (HBX.out w1 hw1); clear hw1)
        go_ret2
        exact ⟨aZ HN.out, HX1.out⟩
    · obtain ⟨a, b, hab⟩ : ∃ a b, dC T = (a, b) := ⟨_, _, rfl⟩
      have CF := hide (mH HLW.out)
      rw [hab] at CF
      unfold ik at CF
      simp only at CF
      by_cases ha : a = 0
      · have ha0 : (dC T).1 = 0 := by rw [hab]; exact ha
        have HN : Hid (nm T 2 r) := hide ⟨fun _ => HS.out.f (by omega), fun _ => ha0, fun h => by omega, jG HS.out.c ha0⟩
        subst ha
        clear hab ha0 HS
        go_wp2_with (go_at_call 22; refine CF.out.mono ?_; rintro _ w1 ⟨rfl, hw1⟩; have HX1 := hide (HW2.out w1 hw1); clear hw1)
        go_roundw
        case rel => exact ⟨2, by omega, by go_num, HN, HX1⟩
        case measure => simp [intOf]
      · have HN : Hid ((a, b) = r) := hide (by rw [← hab]; exact jt HS.out.c (by rw [hab]; exact ha))
        have hab2 : (a != 0) = true := by simpa using ha
        clear hab HS
        go_wp2_with (go_at_call 22; refine CF.out.mono ?_; rintro _ w1 ⟨rfl, hw1⟩; have HX1 := hide (HBX.out w1 hw1); clear hw1)
        go_ret2
        exact ⟨aZ HN.out, HX1.out⟩
    · obtain ⟨a, b, hab⟩ : ∃ a b, fS T = (a, b) := ⟨_, _, rfl⟩
      have CF := hide (mF HLW.out h0 h1 (HS.out.f (by omega)) (HS.out.r (by omega)))
      rw [hab] at CF
      unfold ik at CF
      simp only at CF
      by_cases ha : a = 0
      · have ha0 : (fS T).1 = 0 := by rw [hab]; exact ha
        have HN : Hid (nm T 3 r) := hide ⟨fun _ => HS.out.f (by omega), fun _ => HS.out.r (by omega), fun h => by omega, jG HS.out.c ha0⟩
        subst ha
        clear hab ha0 HS
        go_wp2_with (go_at_call 23; refine CF.out.mono ?_; rintro _ w1 ⟨rfl, hw1⟩; have HX1 := hide (HW2.out w1 hw1); clear hw1)
        go_roundw
        case rel => exact ⟨3, by omega, by go_num, HN, HX1⟩
        case measure => simp [intOf]
      · have HN : Hid ((a, b) = r) := hide (by rw [← hab]; exact jt HS.out.c (by rw [hab]; exact ha))
        have hab2 : (a != 0) = true := by simpa using ha
        clear hab HS
        go_wp2_with (go_at_call 23; refine CF.out.mono ?_; rintro _ w1 ⟨rfl, hw1⟩; have HX1 := hide (HBX.out w1 hw1); clear hw1)
        go_ret2
        exact ⟨aZ HN.out, HX1.out⟩
    · obtain ⟨a, b, hab⟩ : ∃ a b, dN T = (a, b) := ⟨_, _, rfl⟩
      have CF := hide (mI HLW.out (HS.out.f (by omega)) (HS.out.r (by omega)))
      rw [hab] at CF
      unfold ik at CF
      simp only at CF
      by_cases ha : a = 0
      · have ha0 : (dN T).1 = 0 := by rw [hab]; exact ha
        have HN : Hid (nm T 4 r) := hide ⟨fun _ => HS.out.f (by omega), fun _ => HS.out.r (by omega), fun _ => ha0, by rw [← tP]; exact jG HS.out.c ha0⟩
        subst ha
        clear hab ha0 HS
        go_wp2_with (go_at_call 24; refine CF.out.mono ?_; rintro _ w1 ⟨rfl, hw1⟩; have HX1 := hide (HW2.out w1 hw1); clear hw1)
        go_roundw
        case rel => exact ⟨4, by omega, by go_num, HN, HX1⟩
        case measure => simp [intOf]
      · have HN : Hid ((a, b) = r) := hide (by rw [← hab]; exact jt HS.out.c (by rw [hab]; exact ha))
        have hab2 : (a != 0) = true := by simpa using ha
        clear hab HS
        go_wp2_with (go_at_call 24; refine CF.out.mono ?_; rintro _ w1 ⟨rfl, hw1⟩; have HX1 := hide (HBX.out w1 hw1); clear hw1)
        go_ret2
        exact ⟨aZ HN.out, HX1.out⟩
    · obtain ⟨a, b, hab⟩ : ∃ a b, bL T = (a, b) := ⟨_, _, rfl⟩
      have CF := hide (kO HLW.out (HS.out.r (by omega)) (HS.out.b (by omega)))
      rw [hab] at CF
      unfold ik at CF
      simp only at CF
      by_cases ha : a = 0
      · have ha0 : (bL T).1 = 0 := by rw [hab]; exact ha
        have HN : Hid (nm T 5 r) := hide ⟨fun _ => HS.out.f (by omega), fun _ => HS.out.r (by omega), fun _ => HS.out.b (by omega), jG HS.out.c ha0⟩
        subst ha
        clear hab ha0 HS
        go_wp2_with (go_at_call 25; refine CF.out.mono ?_; rintro _ w1 ⟨rfl, hw1⟩; have HX1 := hide (HW2.out w1 hw1); clear hw1)
        go_roundw
        case rel => exact ⟨5, by omega, by go_num, HN, HX1⟩
        case measure => simp [intOf]
      · have HN : Hid ((a, b) = r) := hide (by rw [← hab]; exact jt HS.out.c (by rw [hab]; exact ha))
        have hab2 : (a != 0) = true := by simpa using ha
        clear hab HS
        go_wp2_with (go_at_call 25; refine CF.out.mono ?_; rintro _ w1 ⟨rfl, hw1⟩; have HX1 := hide (HBX.out w1 hw1); clear hw1)
        go_ret2
        exact ⟨aZ HN.out, HX1.out⟩
    · have HE := hide HS.out.c
      clear HS
      go_wp2_with fail
      go_ret2
      exact ⟨aZ HE.out, HBW.out⟩
end Go.Proofs.YthifoamnmhlghaaGreat
