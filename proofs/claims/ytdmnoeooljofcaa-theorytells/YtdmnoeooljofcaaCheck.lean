/- circleFault, Check. -/
import Derived.Test.YtdmnoeooljofcaaVisit
namespace Go.Proofs.Ytdmnoeooljofcaa
open Go.RowKit

theorem beats_in {T : Th} (hb : (beatM T).1 = 0) : ∀ (i : Nat) l, T.beats[i]? = some l → ∀ z ∈ l, 0 ≤ z ∧ z < (T.beats.length : Int) := fun i l hl z hz => by
  obtain ⟨b1, b2⟩ := beat_ok hb
  have := (rises_iff.1 (b2 i l hl).1).1 z hz
  rw [b1]
  omega
set_option maxRecDepth 100000 in
set_option maxHeartbeats 6400000 in
theorem circleFault_any {w : World} {T : Th} {fa ra ba : Option Addr} {fc rc bc : Nat} (h : TA w.heap.size w T fa fc ra rc ba bc) (hru : (ruleM T).1 = 0) (hb : (beatM T).1 = 0) :
    Calls Try.prog 54 #[tv T fa fc ra rc ba bc] w fun e w' => e = .returned (dup (circleM T)) ∧ Below w.heap.size w w' := by
  have hB := below_new w (.cells #[.int .i64 T.lits, .slice fa T.foes.length fc, .slice ra T.rules.length rc, .slice ba T.beats.length bc] 27)
  have hX := heap_alloc_new w (.cells #[.int .i64 T.lits, .slice fa T.foes.length fc, .slice ra T.rules.length rc, .slice ba T.beats.length bc] 27)
  have hL := TR.go hB h
  have hr4 := (rule_ok hru).1
  have hbl := (beat_ok hb).1
  have CK := hide (knotsOf_any hL.beats (by omega) (beats_in hb))
  obtain ⟨r, hr⟩ : ∃ r, circleM T = r := ⟨_, rfl⟩
  obtain ⟨L, hLo⟩ : ∃ L, lowestM T = L := ⟨_, rfl⟩
  rw [hr]
  unfold circleM at hr
  rw [hLo] at hr
  have HR := hide hr
  generalize hks : knotsM T.beats = ks at *
  have HL0 : Hid ((ks.drop 0).foldl lowM T.rules.length = L) := hide (by rw [List.drop_zero, ← hks]; exact hLo)
  have HB := hide hB
  clear h hru hb hB hL hbl hr hLo hks
  go_enter Try.func54, Try.ntmps54
  go_upto_region 1 with fail
  generalize w.alloc (.cells #[.int .i64 T.lits, .slice fa T.foes.length fc, .slice ra T.rules.length rc, .slice ba T.beats.length bc] 27) = W at *
  obtain ⟨-, c0, c1, c2, c3⟩ := Bt.of hX
  have HX := hide hX
  clear hX
  go_wp2_with (go_at_call 66; refine CK.out.mono ?_; rintro _ w1 ⟨ka, kc, rfl, hk1, hw1⟩; have HX1 := hide (HB.out.trans (hw1.mono HB.out.size)); have HXb := hide ((hw1.block _ (loc_lt HX.out)).trans HX.out); have HKs := hide hk1; have hkl := hk1.lim; clear hw1 hk1)
  clear c0 c1 c2 c3 HX
  go_loop [4, 14] (fun y x => ∃ (k : Nat) (z : Int), k ≤ ks.length ∧ x = .int .i64 k ∧ y = .int .i64 z ∧ Hid ((ks.drop k).foldl lowM z = L)) (fun _ x => ks.length - (intOf x).toNat)
  case atStart => exact ⟨0, T.rules.length, by omega, rfl, rfl, HL0⟩
  case round =>
    clear HL0
    obtain ⟨k, z, hk, rfl, rfl, HK⟩ := hrel
    by_cases hlt : k < ks.length
    · obtain ⟨kn, hkn⟩ := get_at hlt
      obtain ⟨g, of, a2, d2, rfl, -, kcell, -, hll, hI⟩ := at_L HKs.out hkn
      have HN : Hid ((ks.drop (k + 1)).foldl lowM (lowM z kn) = L) := hide (by have := HK.out; rw [drop_at hkn, List.foldl_cons] at this; exact this)
      by_cases h1 : 1 < kn.length
      · have CM := hide (min_any (c := d2) hI.at1 hll (by omega))
        have HN2 : Hid ((ks.drop (k + 1)).foldl lowM (min z (minM kn)) = L) := hide (by have := HN.out; unfold lowM at this; rw [if_pos h1] at this; exact this)
        clear HK HN hI hkn
        generalize minM kn = mk at *
        go_wp2_with (go_at_call 67; refine CM.out.mono ?_; rintro _ w2 ⟨rfl, hw⟩; subst w2)
        go_round
        case rel => exact ⟨k + 1, min z mk, by omega, by go_num, by rw [min_if], HN2⟩
        case measure => simp [intOf]; omega
      · have HN2 : Hid ((ks.drop (k + 1)).foldl lowM z = L) := hide (by have := HN.out; rw [show lowM z kn = z by unfold lowM; rw [if_neg h1]] at this; exact this)
        clear HK HN hI hkn
        go_wp2_with fail
        go_round
        case rel => exact ⟨k + 1, z, by omega, by go_num, rfl, HN2⟩
        case measure => simp [intOf]; omega
    · have HN : Hid (z = L) := hide (by have := HK.out; rw [drop_end (by omega)] at this; exact this)
      obtain ⟨-, c0, c1, c2, c3⟩ := Bt.of HXb.out
      have hL2 := HR.out
      rw [← HN.out] at hL2
      clear HK HN HR
      by_cases hz : z < (T.rules.length : Int)
      · rw [if_pos hz] at hL2
        have HE := hide hL2
        clear hL2
        go_wp2_with fail
        go_ret2
        exact ⟨ret_dup HE.out, HX1.out⟩
      · rw [if_neg hz] at hL2
        have HE := hide hL2
        clear hL2
        go_wp2_with fail
        go_ret2
        exact ⟨ret_dup HE.out, HX1.out⟩

def chainM (T : Th) : Nat → Int × Int
  | 0 => orM (foeM T) (orM (ruleM T) (orM (pairM T) (orM (beatM T) (circleM T))))
  | 1 => orM (ruleM T) (orM (pairM T) (orM (beatM T) (circleM T)))
  | 2 => orM (pairM T) (orM (beatM T) (circleM T))
  | 3 => orM (beatM T) (circleM T)
  | 4 => orM (circleM T) (0, 0)
  | _ => (0, 0)
theorem circle_zero {T : Th} (h : (circleM T).1 = 0) : circleM T = (0, 0) := by
  unfold circleM at h ⊢
  split
  · rename_i h1; rw [if_pos h1] at h; cases h
  · rfl
theorem chain4 {T : Th} : circleM T = chainM T 4 := by
  show circleM T = orM (circleM T) (0, 0)
  unfold orM
  split
  · rename_i h; exact circle_zero h
  · rfl
structure Stg (T : Th) (k : Nat) (res : Int × Int) : Prop where
  f : 1 ≤ k → (foeM T).1 = 0
  r : 2 ≤ k → (ruleM T).1 = 0
  b : 4 ≤ k → (beatM T).1 = 0
  c : chainM T k = res
theorem orM_no {a : Int × Int} {b r : Int × Int} (h : orM a b = r) (ha : a.1 ≠ 0) : a = r := by unfold orM at h; rw [if_neg ha] at h; exact h
theorem orM_go {a : Int × Int} {b r : Int × Int} (h : orM a b = r) (ha : a.1 = 0) : b = r := by unfold orM at h; rw [if_pos ha] at h; exact h

set_option maxRecDepth 100000 in
set_option maxHeartbeats 12800000 in
theorem check_any {w : World} {T : Th} {fa ra ba : Option Addr} {fc rc bc : Nat} (h : TA w.heap.size w T fa fc ra rc ba bc) :
    Calls Try.prog 31 #[tv T fa fc ra rc ba bc] w fun e w' => e = .returned (dup (checkM T)) ∧ Below w.heap.size w w' := by
  have hB := below_new w (.cells #[.int .i64 T.lits, .slice fa T.foes.length fc, .slice ra T.rules.length rc, .slice ba T.beats.length bc] 27)
  have hX := heap_alloc_new w (.cells #[.int .i64 T.lits, .slice fa T.foes.length fc, .slice ra T.rules.length rc, .slice ba T.beats.length bc] 27)
  obtain ⟨r, hr⟩ : ∃ r, checkM T = r := ⟨_, rfl⟩
  rw [hr]
  unfold checkM at hr
  have HB := hide hB
  have HH := hide h
  clear h hB
  by_cases hlit : T.lits < 0 ∨ 4096 < T.lits
  · rw [if_pos hlit] at hr
    have HR := hide hr
    clear hr
    have hl2 : T.lits < 0 ∨ (0 ≤ T.lits ∧ 4096 < T.lits) := by omega
    clear hlit
    go_enter Try.func31, Try.ntmps31
    go_upto_region 1 with fail
    generalize w.alloc (.cells #[.int .i64 T.lits, .slice fa T.foes.length fc, .slice ra T.rules.length rc, .slice ba T.beats.length bc] 27) = W at *
    obtain ⟨-, c0, c1, c2, c3⟩ := Bt.of hX
    rcases hl2 with h1 | ⟨h1, h2⟩
    all_goals
      go_wp2_with fail
      go_ret2
      exact ⟨ret_dup HR.out, HB.out⟩
  · rw [if_neg hlit] at hr
    have h0 : 0 ≤ T.lits := by omega
    have h1 : T.lits ≤ 4096 := by omega
    have HS0 : Hid (Stg T 0 r) := hide ⟨fun h => by omega, fun h => by omega, fun h => by omega, hr⟩
    clear hr hlit
    go_enter Try.func31, Try.ntmps31
    go_upto_region 1 with fail
    generalize w.alloc (.cells #[.int .i64 T.lits, .slice fa T.foes.length fc, .slice ra T.rules.length rc, .slice ba T.beats.length bc] 27) = W at *
    obtain ⟨-, c0, c1, c2, c3⟩ := Bt.of hX
    have HX := hide hX
    clear hX
    have hA := below_new W (.cells #[.func (.func 50) #[] #[], .func (.func 51) #[] #[], .func (.func 52) #[] #[], .func (.func 53) #[] #[], .func (.func 54) #[] #[]] 74)
    have HF := hide (heap_alloc_new W (.cells #[.func (.func 50) #[] #[], .func (.func 51) #[] #[], .func (.func 52) #[] #[], .func (.func 53) #[] #[], .func (.func 54) #[] #[]] 74))
    have HX2 := hide ((hA.block _ (loc_lt HX.out)).trans HX.out)
    have HB2 := hide (HB.out.trans (hA.mono HB.out.size))
    clear HX hA HB
    go_upto_region 3 with fail
    go_wp2_with fail
    generalize W.alloc (.cells #[.func (.func 50) #[] #[], .func (.func 51) #[] #[], .func (.func 52) #[] #[], .func (.func 53) #[] #[], .func (.func 54) #[] #[]] 74) = W2 at *
    clear c0 c1 c2 c3
    go_loopw [18] (fun x wr => ∃ k : Nat, k ≤ 5 ∧ x = .int .i64 k ∧ Hid (Stg T k r) ∧ Hid (Below W2.heap.size W2 wr)) (fun x _ => 5 - (intOf x).toNat)
    case atStart => exact ⟨0, by omega, rfl, HS0, hide (Below.refl _ _)⟩
    case round =>
      clear HS0
      obtain ⟨k, hk, rfl, HS, HW⟩ := hrel
      have hbw := (HW.out.block _ (loc_lt HX2.out)).trans HX2.out
      have hfw := (HW.out.block _ (loc_lt HF.out)).trans HF.out
      obtain ⟨-, c0, c1, c2, c3⟩ := Bt.of hbw
      have f0 := cell_of_row wr _ 0 _ _ _ hfw
      have f1 := cell_of_row wr _ 1 _ _ _ hfw
      have f2 := cell_of_row wr _ 2 _ _ _ hfw
      have f3 := cell_of_row wr _ 3 _ _ _ hfw
      have f4 := cell_of_row wr _ 4 _ _ _ hfw
      simp only [List.getElem?_toArray, List.getElem?_cons_zero, List.getElem?_cons_succ] at f0 f1 f2 f3 f4
      have HBW := hide (HB2.out.trans (HW.out.mono HB2.out.size))
      have HLW := hide (TR.go HBW.out HH.out)
      have HW2 := hide (fun (X : World) (hX : Below wr.heap.size wr X) => HW.out.trans (hX.mono HW.out.size))
      have HBX := hide (fun (X : World) (hX : Below wr.heap.size wr X) => HBW.out.trans (hX.mono HBW.out.size))
      clear hbw hfw
      have hcase : k = 0 ∨ k = 1 ∨ k = 2 ∨ k = 3 ∨ k = 4 ∨ k = 5 := by omega
      rcases hcase with rfl | rfl | rfl | rfl | rfl | rfl
      · obtain ⟨a, b, hab⟩ : ∃ a b, foeM T = (a, b) := ⟨_, _, rfl⟩
        have CF := hide (foeFault_any HLW.out)
        rw [hab] at CF
        unfold dup at CF
        simp only at CF
        by_cases ha : a = 0
        · have ha0 : (foeM T).1 = 0 := by rw [hab]; exact ha
          have HN : Hid (Stg T 1 r) := hide ⟨fun _ => ha0, fun h => by omega, fun h => by omega, orM_go HS.out.c ha0⟩
          subst ha
          clear hab ha0 HS
          go_wp2_with (go_at_call 50; refine CF.out.mono ?_; rintro _ w1 ⟨rfl, hw1⟩; have HX1 := hide (HW2.out w1 hw1); clear hw1)
          go_roundw
          case rel => exact ⟨1, by omega, by go_num, HN, HX1⟩
          case measure => simp [intOf]
        · have HN : Hid ((a, b) = r) := hide (by rw [← hab]; exact orM_no HS.out.c (by rw [hab]; exact ha))
          have hab2 : (a != 0) = true := by simpa using ha
          clear hab HS
          go_wp2_with (go_at_call 50; refine CF.out.mono ?_; rintro _ w1 ⟨rfl, hw1⟩; have HX1 := hide (HBX.out w1 hw1); clear hw1)
          go_ret2
          exact ⟨ret_dup HN.out, HX1.out⟩
      · obtain ⟨a, b, hab⟩ : ∃ a b, ruleM T = (a, b) := ⟨_, _, rfl⟩
        have CF := hide (ruleFault_any HLW.out)
        rw [hab] at CF
        unfold dup at CF
        simp only at CF
        by_cases ha : a = 0
        · have ha0 : (ruleM T).1 = 0 := by rw [hab]; exact ha
          have HN : Hid (Stg T 2 r) := hide ⟨fun _ => HS.out.f (by omega), fun _ => ha0, fun h => by omega, orM_go HS.out.c ha0⟩
          subst ha
          clear hab ha0 HS
          go_wp2_with (go_at_call 51; refine CF.out.mono ?_; rintro _ w1 ⟨rfl, hw1⟩; have HX1 := hide (HW2.out w1 hw1); clear hw1)
          go_roundw
          case rel => exact ⟨2, by omega, by go_num, HN, HX1⟩
          case measure => simp [intOf]
        · have HN : Hid ((a, b) = r) := hide (by rw [← hab]; exact orM_no HS.out.c (by rw [hab]; exact ha))
          have hab2 : (a != 0) = true := by simpa using ha
          clear hab HS
          go_wp2_with (go_at_call 51; refine CF.out.mono ?_; rintro _ w1 ⟨rfl, hw1⟩; have HX1 := hide (HBX.out w1 hw1); clear hw1)
          go_ret2
          exact ⟨ret_dup HN.out, HX1.out⟩
      · obtain ⟨a, b, hab⟩ : ∃ a b, pairM T = (a, b) := ⟨_, _, rfl⟩
        have CF := hide (pairFault_any HLW.out h0 h1 (HS.out.f (by omega)) (HS.out.r (by omega)))
        rw [hab] at CF
        unfold dup at CF
        simp only at CF
        by_cases ha : a = 0
        · have ha0 : (pairM T).1 = 0 := by rw [hab]; exact ha
          have HN : Hid (Stg T 3 r) := hide ⟨fun _ => HS.out.f (by omega), fun _ => HS.out.r (by omega), fun h => by omega, orM_go HS.out.c ha0⟩
          subst ha
          clear hab ha0 HS
          go_wp2_with (go_at_call 52; refine CF.out.mono ?_; rintro _ w1 ⟨rfl, hw1⟩; have HX1 := hide (HW2.out w1 hw1); clear hw1)
          go_roundw
          case rel => exact ⟨3, by omega, by go_num, HN, HX1⟩
          case measure => simp [intOf]
        · have HN : Hid ((a, b) = r) := hide (by rw [← hab]; exact orM_no HS.out.c (by rw [hab]; exact ha))
          have hab2 : (a != 0) = true := by simpa using ha
          clear hab HS
          go_wp2_with (go_at_call 52; refine CF.out.mono ?_; rintro _ w1 ⟨rfl, hw1⟩; have HX1 := hide (HBX.out w1 hw1); clear hw1)
          go_ret2
          exact ⟨ret_dup HN.out, HX1.out⟩
      · obtain ⟨a, b, hab⟩ : ∃ a b, beatM T = (a, b) := ⟨_, _, rfl⟩
        have CF := hide (beatFault_any HLW.out (HS.out.f (by omega)) (HS.out.r (by omega)))
        rw [hab] at CF
        unfold dup at CF
        simp only at CF
        by_cases ha : a = 0
        · have ha0 : (beatM T).1 = 0 := by rw [hab]; exact ha
          have HN : Hid (Stg T 4 r) := hide ⟨fun _ => HS.out.f (by omega), fun _ => HS.out.r (by omega), fun _ => ha0, by rw [← chain4]; exact orM_go HS.out.c ha0⟩
          subst ha
          clear hab ha0 HS
          go_wp2_with (go_at_call 53; refine CF.out.mono ?_; rintro _ w1 ⟨rfl, hw1⟩; have HX1 := hide (HW2.out w1 hw1); clear hw1)
          go_roundw
          case rel => exact ⟨4, by omega, by go_num, HN, HX1⟩
          case measure => simp [intOf]
        · have HN : Hid ((a, b) = r) := hide (by rw [← hab]; exact orM_no HS.out.c (by rw [hab]; exact ha))
          have hab2 : (a != 0) = true := by simpa using ha
          clear hab HS
          go_wp2_with (go_at_call 53; refine CF.out.mono ?_; rintro _ w1 ⟨rfl, hw1⟩; have HX1 := hide (HBX.out w1 hw1); clear hw1)
          go_ret2
          exact ⟨ret_dup HN.out, HX1.out⟩
      · obtain ⟨a, b, hab⟩ : ∃ a b, circleM T = (a, b) := ⟨_, _, rfl⟩
        have CF := hide (circleFault_any HLW.out (HS.out.r (by omega)) (HS.out.b (by omega)))
        rw [hab] at CF
        unfold dup at CF
        simp only at CF
        by_cases ha : a = 0
        · have ha0 : (circleM T).1 = 0 := by rw [hab]; exact ha
          have HN : Hid (Stg T 5 r) := hide ⟨fun _ => HS.out.f (by omega), fun _ => HS.out.r (by omega), fun _ => HS.out.b (by omega), orM_go HS.out.c ha0⟩
          subst ha
          clear hab ha0 HS
          go_wp2_with (go_at_call 54; refine CF.out.mono ?_; rintro _ w1 ⟨rfl, hw1⟩; have HX1 := hide (HW2.out w1 hw1); clear hw1)
          go_roundw
          case rel => exact ⟨5, by omega, by go_num, HN, HX1⟩
          case measure => simp [intOf]
        · have HN : Hid ((a, b) = r) := hide (by rw [← hab]; exact orM_no HS.out.c (by rw [hab]; exact ha))
          have hab2 : (a != 0) = true := by simpa using ha
          clear hab HS
          go_wp2_with (go_at_call 54; refine CF.out.mono ?_; rintro _ w1 ⟨rfl, hw1⟩; have HX1 := hide (HBX.out w1 hw1); clear hw1)
          go_ret2
          exact ⟨ret_dup HN.out, HX1.out⟩
      · have HE := hide HS.out.c
        clear HS
        go_wp2_with fail
        go_ret2
        exact ⟨ret_dup HE.out, HBW.out⟩
end Go.Proofs.Ytdmnoeooljofcaa
