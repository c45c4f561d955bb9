/- pairFault, allFoes, beatFault. -/
import Derived.Test.YthifoamnmhlghaaGreatPairs
namespace Go.Proofs.YthifoamnmhlghaaGreat
open Go.RowKit

set_option maxRecDepth 100000 in
set_option maxHeartbeats 6400000 in
theorem pairFault_any {w : World} {T : Th} {fa ra ba : Option Addr} {fc rc bc : Nat} (h : TA w.heap.size w T fa fc ra rc ba bc) (h0 : 0 ≤ T.lits) (h1 : T.lits ≤ 4096) (hf : (foeM T).1 = 0) (hru : (ruleM T).1 = 0) :
    Calls Tryz.prog 23 #[tv T fa fc ra rc ba bc] w fun e w' => e = .returned (dup (pairM T)) ∧ Below w.heap.size w w' := by
  have hB := below_new w (.cells #[.int .i64 T.lits, .slice fa T.foes.length fc, .slice ra T.rules.length rc, .slice ba T.beats.length bc] 25)
  have hX := heap_alloc_new w (.cells #[.int .i64 T.lits, .slice fa T.foes.length fc, .slice ra T.rules.length rc, .slice ba T.beats.length bc] 25)
  have CP := hide (pairsOf_any (TR.go hB h) h0 h1 hf hru)
  obtain ⟨r, hr⟩ : ∃ r, pairM T = r := ⟨_, rfl⟩
  rw [hr]
  unfold pairM at hr
  have HB := hide hB
  generalize pairsM T = P at *
  clear h hf hru hB h0 h1
  go_enter Tryz.func23, Tryz.ntmps23
  go_upto_region 1 with fail
  generalize w.alloc (.cells #[.int .i64 T.lits, .slice fa T.foes.length fc, .slice ra T.rules.length rc, .slice ba T.beats.length bc] 25) = W at *
  obtain ⟨-, c0, c1, c2, c3⟩ := Bt.of hX
  clear hX
  by_cases hp : 65536 < P
  · rw [if_pos hp] at hr
    have HR := hide hr
    clear hr
    go_wp2_with (go_at_call 48; refine CP.out.mono ?_; rintro _ w1 ⟨rfl, hw1⟩; have HX1 := hide (HB.out.trans (hw1.mono HB.out.size)); clear hw1)
    go_ret2
    exact ⟨ret_dup HR.out, HX1.out⟩
  · rw [if_neg hp] at hr
    have HR := hide hr
    clear hr
    go_wp2_with (go_at_call 48; refine CP.out.mono ?_; rintro _ w1 ⟨rfl, hw1⟩; have HX1 := hide (HB.out.trans (hw1.mono HB.out.size)); clear hw1)
    go_ret2
    exact ⟨ret_dup HR.out, HX1.out⟩

theorem head_at {T : Th} {z : Int} {x : RuleM} (h : T.rules[z.toNat]? = some x) : headOf T z = x.head := by unfold headOf; rw [h]; rfl
set_option maxRecDepth 100000 in
set_option maxHeartbeats 6400000 in
theorem allFoes_any {w : World} {T : Th} {fa ra ba : Option Addr} {fc rc bc i : Nat} {l : List Int} (h : TA w.heap.size w T fa fc ra rc ba bc) (hf : (foeM T).1 = 0) (hru : (ruleM T).1 = 0) (hi : T.beats[i]? = some l) (hir : i < T.rules.length) (hr : ∀ f ∈ l, 0 ≤ f ∧ f < (T.rules.length : Int)) :
    Calls Tryz.prog 49 #[tv T fa fc ra rc ba bc, .int .i64 i] w fun e w' => e = .returned (.bool (l.all fun b => decide (headOf T b ∈ row T.foes (headOf T i)))) ∧ Below w.heap.size w w' := by
  obtain ⟨f1, f2⟩ := foe_ok hf
  obtain ⟨r1, r2⟩ := rule_ok hru
  have hB := below_new w (.cells #[.int .i64 T.lits, .slice fa T.foes.length fc, .slice ra T.rules.length rc, .slice ba T.beats.length bc] 25)
  have hX := heap_alloc_new w (.cells #[.int .i64 T.lits, .slice fa T.foes.length fc, .slice ra T.rules.length rc, .slice ba T.beats.length bc] 25)
  have hL := TR.go hB h
  have hfl := h.foes.lim
  have hrl := h.rules.lim
  have hbl := h.beats.lim
  have hil : i < T.beats.length := (List.getElem?_eq_some_iff.1 hi).1
  obtain ⟨x, hx⟩ := get_at hir
  obtain ⟨-, -, hh0, hh1, -, -⟩ := r2 x (List.mem_of_getElem? hx)
  obtain ⟨m, hm⟩ := Int.eq_ofNat_of_zero_le hh0
  have hmf : m < T.foes.length := by omega
  obtain ⟨fl, hfl2⟩ := get_at hmf
  have hhead : headOf T (i : Int) = m := by rw [head_at (x := x) (by simpa using hx), hm]
  have hrow : row T.foes (m : Int) = fl := row_at (by simpa using hfl2)
  rw [hhead, hrow]
  have hsort := (rises_iff.1 (f2 m fl hfl2).2.1).2
  obtain ⟨o, ho⟩ : ∃ o, (l.all fun b => decide (headOf T b ∈ fl)) = o := ⟨_, rfl⟩
  rw [ho]
  have HO : Hid ((l.drop 0).all (fun b => decide (headOf T b ∈ fl)) = o) := hide (by rw [List.drop_zero]; exact ho)
  clear h ho f2 hhead hrow f1
  go_enter Tryz.func49, Tryz.ntmps49
  go_upto_region 1 with fail
  generalize w.alloc (.cells #[.int .i64 T.lits, .slice fa T.foes.length fc, .slice ra T.rules.length rc, .slice ba T.beats.length bc] 25) = W at *
  obtain ⟨-, c0, c1, c2, c3⟩ := Bt.of hX
  obtain ⟨g1, o1, a1, d1, rfl, -, k1, -, hfll, hI1⟩ := at_L hL.foes hfl2
  obtain ⟨g2, o2, a2, d2, rfl, -, k20, k21, k22, -, -, -⟩ := at_R hL.rules hx
  obtain ⟨g3, o3, a3, d3, rfl, -, k3, -, hll, hI3⟩ := at_L hL.beats hi
  rw [hm] at k21
  have CS := hide (fun (t : Int) (q : Nat) => search_any (w := W.drewN q) (c := d1) (hI1.at1.below (below_drewN W q)) hfll hsort t)
  have HI3 := hide hI3.at1
  have HRu := hide hL.rules
  have HB := hide hB
  have HR := hide hr
  have HR2 := hide r2
  clear hL hB hX hi hr hI1 hI3 hx hh0 hh1 hm hfl2 hsort r2
  go_wp2_with fail
  go_quiet (fail)
  go_wp2_with fail
  go_loopw [26] (fun z wr => ∃ (k q : Nat), k ≤ l.length ∧ z = .int .i64 k ∧ wr = W.drewN q ∧ Hid ((l.drop k).all (fun b => decide (headOf T b ∈ fl)) = o)) (fun z _ => l.length - (intOf z).toNat)
  case atStart => exact ⟨0, _, by omega, rfl, rfl, HO⟩
  case round =>
    clear HO
    obtain ⟨k, q, hk, rfl, rfl, HK⟩ := hrel
    by_cases hlt : k < l.length
    · obtain ⟨y, hy⟩ := get_at hlt
      obtain ⟨g4, o4, rfl, kc4⟩ := HI3.out.get hy
      obtain ⟨hy0, hy1⟩ := HR.out y (List.mem_of_getElem? hy)
      obtain ⟨p, rfl⟩ := Int.eq_ofNat_of_zero_le hy0
      have hp : p < T.rules.length := by omega
      obtain ⟨x2, hx2⟩ := get_at hp
      obtain ⟨_, _, a5, d5, e5, -, j0, j1, j2, -, -, -⟩ := at_R HRu.out hx2
      cases e5
      have CC := hide (CS.out x2.head q)
      have HS : Hid ((l.drop k).all (fun b => decide (headOf T b ∈ fl)) = (decide (x2.head ∈ fl) && (l.drop (k + 1)).all (fun b => decide (headOf T b ∈ fl)))) := hide (by rw [all_step hy, head_at (x := x2) (by simpa using hx2)])
      clear hy hx2 hy0 hy1
      by_cases hin : x2.head ∈ fl
      · have HN : Hid ((l.drop (k + 1)).all (fun b => decide (headOf T b ∈ fl)) = o) := hide (by have := HK.out; rw [HS.out, decide_eq_true hin, Bool.true_and] at this; exact this)
        have CD : Hid (Calls Tryz.prog 73 #[.slice a1 fl.length d1, .int .i64 x2.head] (W.drewN q) fun e w' => ∃ z : Int, e = .returned (.tuple #[.int .i64 z, .bool true]) ∧ w' = W.drewN q) := hide (CC.out.mono fun e w' ⟨⟨z, hz⟩, hw⟩ => ⟨z, by rw [hz, decide_eq_true hin], hw⟩)
        clear HK HS CC hin
        go_wp2_with (go_at_call 73; refine CD.out.mono ?_; rintro _ w1 ⟨z1, rfl, hw⟩; subst w1)
        go_roundw
        case rel => exact ⟨k + 1, q, by omega, by go_num, rfl, HN⟩
        case measure => simp [intOf]; omega
      · have HN : Hid (false = o) := hide (by have := HK.out; rw [HS.out, decide_eq_false hin, Bool.false_and] at this; exact this)
        have CD : Hid (Calls Tryz.prog 73 #[.slice a1 fl.length d1, .int .i64 x2.head] (W.drewN q) fun e w' => ∃ z : Int, e = .returned (.tuple #[.int .i64 z, .bool false]) ∧ w' = W.drewN q) := hide (CC.out.mono fun e w' ⟨⟨z, hz⟩, hw⟩ => ⟨z, by rw [hz, decide_eq_false hin], hw⟩)
        clear HK HS CC hin
        go_wp2_with (go_at_call 73; refine CD.out.mono ?_; rintro _ w1 ⟨z1, rfl, hw⟩; subst w1)
        go_ret
        exact ⟨ret_bool HN.out, HB.out.trans ((below_drewN W q).mono HB.out.size)⟩
    · have HN : Hid (true = o) := hide (by have := HK.out; rw [drop_end (by omega)] at this; exact this)
      go_wp2_with fail
      go_ret
      exact ⟨ret_bool HN.out, HB.out.trans ((below_drewN W q).mono HB.out.size)⟩

set_option maxRecDepth 100000 in
set_option maxHeartbeats 12800000 in
theorem beatFault_any {w : World} {T : Th} {fa ra ba : Option Addr} {fc rc bc : Nat} (h : TA w.heap.size w T fa fc ra rc ba bc) (hf : (foeM T).1 = 0) (hru : (ruleM T).1 = 0) :
    Calls Tryz.prog 24 #[tv T fa fc ra rc ba bc] w fun e w' => e = .returned (dup (beatM T)) ∧ Below w.heap.size w w' := by
  have hB := below_new w (.cells #[.int .i64 T.lits, .slice fa T.foes.length fc, .slice ra T.rules.length rc, .slice ba T.beats.length bc] 25)
  have hL := TR.go hB h
  have hX := Bt.new w (.int .i64 T.lits) (.slice fa T.foes.length fc) (.slice ra T.rules.length rc) (.slice ba T.beats.length bc)
  have hfl := h.rules.lim
  have hbl := h.beats.lim
  obtain ⟨r, hr⟩ : ∃ r, beatM T = r := ⟨_, rfl⟩
  rw [hr]
  unfold beatM at hr
  clear h
  by_cases hne : T.beats.length ≠ T.rules.length
  · rw [if_pos hne] at hr
    have HR := hide hr
    have hnb : ((T.beats.length : Int) != T.rules.length) = true := by simp; omega
    have hnb2 : ¬ T.beats.length = T.rules.length := hne
    clear hr hne
    have HB := hide hB
    clear hB hL
    go_enter Tryz.func24, Tryz.ntmps24
    go_upto_region 1 with fail
    generalize w.alloc (.cells #[.int .i64 T.lits, .slice fa T.foes.length fc, .slice ra T.rules.length rc, .slice ba T.beats.length bc] 25) = W at *
    obtain ⟨-, c0, c1, c2, c3⟩ := hX
    go_wp2_with fail
    go_ret2
    exact ⟨ret_dup HR.out, HB.out⟩
  · rw [if_neg hne] at hr
    have hlen : T.beats.length = T.rules.length := Decidable.byContradiction hne
    have HO : Hid (atM 123 (firstB (badBeat T) 0 (T.beats.drop 0)) = r) := hide (by rw [List.drop_zero]; exact hr)
    have hle : T.beats.length ≤ T.rules.length := by omega
    have hge : T.rules.length ≤ T.beats.length := by omega
    have hnb : ((T.beats.length : Int) != T.rules.length) = false := by simp; omega
    clear hr hne hlen
    go_enter Tryz.func24, Tryz.ntmps24
    go_upto_region 1 with fail
    generalize w.alloc (.cells #[.int .i64 T.lits, .slice fa T.foes.length fc, .slice ra T.rules.length rc, .slice ba T.beats.length bc] 25) = W at *
    obtain ⟨hbx, c0, c1, c2, c3⟩ := hX
    have HL := hide hL
    have HB := hide hB
    have HX := hide hbx
    have HF := hide hf
    have HRU := hide hru
    clear hL hB hbx hf hru
    go_wp2_with fail
    go_loopw [16] (fun x wr => ∃ k : Nat, k ≤ T.beats.length ∧ x = .int .i64 k ∧ Hid (atM 123 (firstB (badBeat T) k (T.beats.drop k)) = r) ∧ Hid (Below W.heap.size W wr)) (fun x _ => T.beats.length - (intOf x).toNat)
    case atStart => exact ⟨0, by omega, rfl, HO, hide (Below.refl _ _)⟩
    case round =>
      clear HO c0 c1 c2 c3
      obtain ⟨k, hk, rfl, HK, HW⟩ := hrel
      have hbw : wr.heap[w.heap.size]? = some (.cells #[.int .i64 T.lits, .slice fa T.foes.length fc, .slice ra T.rules.length rc, .slice ba T.beats.length bc] 25 (0, 0)) := (HW.out.block _ (loc_lt HX.out)).trans HX.out
      obtain ⟨-, c0, c1, c2, c3⟩ := Bt.of hbw
      have hLw := TR.go HW.out HL.out
      have HBW := hide (HB.out.trans (HW.out.mono HB.out.size))
      clear hbw
      by_cases hlt : k < T.beats.length
      · obtain ⟨l, hl⟩ := get_at hlt
        have HLW := hide hLw
        obtain ⟨g, of, a2, d2, rfl, -, kc, hc2, hll, hI⟩ := at_L hLw.beats hl
        have CR := hide (rising_any (c := d2) hI.at1 hll T.rules.length)
        have HY := hide (first_yes (p := badBeat T) hl)
        have HN := hide (first_no (p := badBeat T) hl)
        have HGet := hide hl
        have HW2 := hide (fun (X : World) (hX : Below wr.heap.size wr X) => HW.out.trans (hX.mono HW.out.size))
        have HBX := hide (fun (X : World) (hX : Below wr.heap.size wr X) => HBW.out.trans (hX.mono HBW.out.size))
        clear hl hI hLw
        cases hri : risesM l T.rules.length with
        | false =>
          have HE : Hid ((123, (k : Int)) = r) := hide (by have := HK.out; rw [HY.out (by simp [badBeat, hri])] at this; exact this)
          rw [hri] at CR
          clear HK HY HN hri
          go_wp2_with (go_at_call 26; refine CR.out.mono ?_; rintro _ w1 ⟨rfl, hw⟩; subst w1)
          go_ret2
          exact ⟨ret_dup HE.out, HBW.out⟩
        | true =>
          have hmem : ∀ f ∈ l, 0 ≤ f ∧ f < (T.rules.length : Int) := fun f hf => by
            have := (rises_iff.1 hri).1 f hf
            omega
          have CT := hide (allFoes_any HLW.out HF.out HRU.out HGet.out (by omega) hmem)
          rw [hri] at CR
          cases hre : (l.all fun b => decide (headOf T b ∈ row T.foes (headOf T k))) with
          | false =>
            have HE : Hid ((123, (k : Int)) = r) := hide (by have := HK.out; rw [HY.out (by unfold badBeat; rw [hre]; simp)] at this; exact this)
            rw [hre] at CT
            clear HK HY HN hri hmem hre
            go_wp2_with (first | (go_at_call 26; refine CR.out.mono ?_; rintro _ w1 ⟨rfl, hw⟩; subst w1) | (go_at_call 49; refine CT.out.mono ?_; rintro _ w1 ⟨rfl, hw1⟩; have HX1 := hide (HBX.out w1 hw1); clear hw1))
            go_ret2
            exact ⟨ret_dup HE.out, HX1.out⟩
          | true =>
            have HE : Hid (atM 123 (firstB (badBeat T) (k + 1) (T.beats.drop (k + 1))) = r) := hide (by have := HK.out; rw [HN.out (by unfold badBeat; rw [hre, hri]; rfl)] at this; exact this)
            rw [hre] at CT
            clear HK HY HN hri hmem hre
            go_wp2_with (first | (go_at_call 26; refine CR.out.mono ?_; rintro _ w1 ⟨rfl, hw⟩; subst w1) | (go_at_call 49; refine CT.out.mono ?_; rintro _ w1 ⟨rfl, hw1⟩; have HX1 := hide (HW2.out w1 hw1); clear hw1))
            go_roundw
            case rel => exact ⟨k + 1, by omega, by go_num, HE, HX1⟩
            case measure => simp [intOf]; omega
      · have HE : Hid ((0, 0) = r) := hide (by have := HK.out; rw [drop_end (by omega)] at this; exact this)
        go_wp2_with fail
        go_ret2
        exact ⟨ret_dup HE.out, HBW.out⟩
end Go.Proofs.YthifoamnmhlghaaGreat
