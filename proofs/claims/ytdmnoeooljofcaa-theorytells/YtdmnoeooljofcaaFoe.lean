/- Foes: returned, foeFault. -/
import Derived.Test.YtdmnoeooljofcaaLeaf
import Derived.Test.YtdmnoeooljofcaaBackM
namespace Go.Proofs.Ytdmnoeooljofcaa
open Go.RowKit

/-- A theory's box. -/
structure Bt (q : Nat) (a b c d : Value) (W : World) : Prop where
  box : W.heap[q]? = some (.cells #[a, b, c, d] 27 (0, 0))
  c0 : W.cell? ⟨q, 0, none⟩ = some a
  c1 : W.cell? ⟨q, 1, none⟩ = some b
  c2 : W.cell? ⟨q, 2, none⟩ = some c
  c3 : W.cell? ⟨q, 3, none⟩ = some d
theorem Bt.of {q : Nat} {a b c d : Value} {W : World} (h : W.heap[q]? = some (.cells #[a, b, c, d] 27 (0, 0))) : Bt q a b c d W :=
  ⟨h, cell_of_row W q 0 _ _ _ h, cell_of_row W q 1 _ _ _ h, cell_of_row W q 2 _ _ _ h, cell_of_row W q 3 _ _ _ h⟩
theorem Bt.new (w : World) (a b c d : Value) : Bt w.heap.size a b c d (w.alloc (.cells #[a, b, c, d] 27)) := Bt.of (heap_alloc_new w _)
theorem Bt.keep {q : Nat} {a b c d : Value} {W W' : World} (h : Bt q a b c d W) (hb : W'.heap[q]? = W.heap[q]?) : Bt q a b c d W' := Bt.of (hb.trans h.box)
theorem Bt.lt {q : Nat} {a b c d : Value} {W : World} (h : Bt q a b c d W) : q < W.heap.size := loc_lt h.box
theorem below_new (w : World) (o : Obj) : Below w.heap.size w (w.alloc o) := (Below.refl _ w).alloc (Nat.le_refl _) _
abbrev tv (T : Th) (fa : Option Addr) (fc : Nat) (ra : Option Addr) (rc : Nat) (ba : Option Addr) (bc : Nat) : Value := .agg #[.int .i64 T.lits, .slice fa T.foes.length fc, .slice ra T.rules.length rc, .slice ba T.beats.length bc]
/-- A theory that may be read, by its lists' places. -/
abbrev TA (N : Nat) (w : World) (T : Th) (fa : Option Addr) (fc : Nat) (ra : Option Addr) (rc : Nat) (ba : Option Addr) (bc : Nat) : Prop := TR N w T (.slice fa T.foes.length fc) (.slice ra T.rules.length rc) (.slice ba T.beats.length bc)
theorem TR.form {N : Nat} {w : World} {T : Th} {fv rv bv : Value} (h : TR N w T fv rv bv) : ∃ fa fc ra rc ba bc, fv = .slice fa T.foes.length fc ∧ rv = .slice ra T.rules.length rc ∧ bv = .slice ba T.beats.length bc ∧ T.foes.length ≤ 140737488351232 ∧ T.rules.length ≤ 140737488351232 ∧ T.beats.length ≤ 140737488351232 := by
  obtain ⟨fa, fc, e1, _, h1⟩ := h.foes.form
  obtain ⟨ra, rc, e2, _, h2⟩ := h.rules.form
  obtain ⟨ba, bc, e3, _, h3⟩ := h.beats.form
  exact ⟨fa, fc, ra, rc, ba, bc, e1, e2, e3, h1, h2, h3⟩
theorem all_step {p : Int → Bool} {l : List Int} {k : Nat} {x : Int} (hx : l[k]? = some x) : (l.drop k).all p = (p x && (l.drop (k + 1)).all p) := by rw [drop_at hx]; rfl

set_option maxRecDepth 100000 in
set_option maxHeartbeats 6400000 in
theorem returned_any {w : World} {T : Th} {fa ra ba : Option Addr} {fc rc bc i : Nat} {l : List Int} (h : Lists w.heap.size w T.foes (.slice fa T.foes.length fc)) (hi : T.foes[i]? = some l) (hr : ∀ f ∈ l, 0 ≤ f ∧ f < (T.foes.length : Int)) :
    Calls Try.prog 63 #[tv T fa fc ra rc ba bc, .int .i64 i] w fun e w' => e = .returned (.bool (returnedM T.foes i l)) ∧ Below w.heap.size w w' := by
  have hB := below_new w (.cells #[.int .i64 T.lits, .slice fa T.foes.length fc, .slice ra T.rules.length rc, .slice ba T.beats.length bc] 27)
  have hL := h.go hB
  have hX := Bt.new w (.int .i64 T.lits) (.slice fa T.foes.length fc) (.slice ra T.rules.length rc) (.slice ba T.beats.length bc)
  have hil : i < T.foes.length := (List.getElem?_eq_some_iff.1 hi).1
  have hfl := h.lim
  obtain ⟨o, ho⟩ : ∃ o, returnedM T.foes i l = o := ⟨_, rfl⟩
  rw [ho]
  have HO : Hid ((l.drop 0).all (fun f => decide ((i : Int) ∈ row T.foes f)) = o) := hide (by rw [List.drop_zero]; exact ho)
  clear h ho
  go_enter Try.func63, Try.ntmps63
  go_upto_region 1 with fail
  generalize w.alloc (.cells #[.int .i64 T.lits, .slice fa T.foes.length fc, .slice ra T.rules.length rc, .slice ba T.beats.length bc] 27) = W at *
  obtain ⟨-, c0, c1, c2, c3⟩ := hX
  obtain ⟨g, of, a2, c2', rfl, -, kc, hc2, hll, hI⟩ := at_L hL hi
  have HL := hide hL
  have HI := hide hI.at1
  have HB := hide hB
  have HR := hide hr
  clear hL hI hB hi hr
  go_wp2_with fail
  go_loop [13] (fun x => ∃ k : Nat, k ≤ l.length ∧ x = .int .i64 k ∧ Hid ((l.drop k).all (fun f => decide ((i : Int) ∈ row T.foes f)) = o)) (fun x => l.length - (intOf x).toNat)
  case atStart => exact ⟨0, by omega, rfl, HO⟩
  case round =>
    clear HO
    obtain ⟨k, hk, rfl, HK⟩ := hrel
    by_cases hlt : k < l.length
    · obtain ⟨x, hx⟩ := get_at hlt
      obtain ⟨g1, o1, rfl, kc1⟩ := HI.out.get hx
      have hxr := HR.out x (List.mem_of_getElem? hx)
      obtain ⟨q, rfl⟩ := Int.eq_ofNat_of_zero_le hxr.1
      have hq : q < T.foes.length := by omega
      obtain ⟨m, hm⟩ := get_at hq
      obtain ⟨_, _, a3, c3', e, -, kc2, -, hml, hI2⟩ := at_L HL.out hm
      cases e
      have CH := hide (has_any (c := c3') hI2.at1 hml i)
      have HS := hide (all_step (p := fun f => decide ((i : Int) ∈ row T.foes f)) hx)
      have HRow : Hid (row T.foes (q : Int) = m) := hide (row_at (by simpa using hm))
      clear hx hI2 hxr hm
      by_cases hin : (i : Int) ∈ m
      · have HN : Hid ((l.drop (k + 1)).all (fun f => decide ((i : Int) ∈ row T.foes f)) = o) := hide (by
          have := HK.out
          rw [HS.out, HRow.out, decide_eq_true hin, Bool.true_and] at this
          exact this)
        rw [decide_eq_true hin] at CH
        clear HK HS HRow hin
        go_wp2_with (go_at_call 62; refine CH.out.mono ?_; rintro _ w1 ⟨rfl, hw⟩; subst w1)
        go_round
        case rel => exact ⟨k + 1, by omega, by go_num, HN⟩
        case measure => simp [intOf]; omega
      · have HN : Hid (false = o) := hide (by
          have := HK.out
          rw [HS.out, HRow.out, decide_eq_false hin, Bool.false_and] at this
          exact this)
        rw [decide_eq_false hin] at CH
        clear HK HS HRow hin
        go_wp2_with (go_at_call 62; refine CH.out.mono ?_; rintro _ w1 ⟨rfl, hw⟩; subst w1)
        go_ret
        exact ⟨ret_bool HN.out, HB.out⟩
    · have HN : Hid (true = o) := hide (by
        have := HK.out
        rw [drop_end (by omega)] at this
        exact this)
      go_wp2_with fail
      go_ret
      exact ⟨ret_bool HN.out, HB.out⟩
end Go.Proofs.Ytdmnoeooljofcaa
/- foeFault, mayBe, ruleFault. -/
namespace Go.Proofs.Ytdmnoeooljofcaa
open Go.RowKit

def dup (p : Int × Int) : Value := .tuple #[.int .i64 p.1, .int .i64 p.2]
theorem ret_dup {p : Int × Int} {a b : Int} (h : (a, b) = p) : Ending.returned (.tuple #[.int .i64 a, .int .i64 b]) = .returned (dup p) := by rw [← h]; rfl
theorem first_yes {α : Type} {p : Nat → α → Bool} {l : List α} {k : Nat} {x : α} (hx : l[k]? = some x) (h : p k x = true) : firstB p k (l.drop k) = some k := by rw [drop_at hx, firstB, if_pos h]
theorem first_no {α : Type} {p : Nat → α → Bool} {l : List α} {k : Nat} {x : α} (hx : l[k]? = some x) (h : p k x = false) : firstB p k (l.drop k) = firstB p (k + 1) (l.drop (k + 1)) := by rw [drop_at hx, firstB, if_neg (by rw [h]; decide)]

set_option maxRecDepth 100000 in
set_option maxHeartbeats 12800000 in
theorem foeFault_any {w : World} {T : Th} {fa ra ba : Option Addr} {fc rc bc : Nat} (h : TA w.heap.size w T fa fc ra rc ba bc) :
    Calls Try.prog 50 #[tv T fa fc ra rc ba bc] w fun e w' => e = .returned (dup (foeM T)) ∧ Below w.heap.size w w' := by
  have hB := below_new w (.cells #[.int .i64 T.lits, .slice fa T.foes.length fc, .slice ra T.rules.length rc, .slice ba T.beats.length bc] 27)
  have hL := TR.go hB h
  have hX := Bt.new w (.int .i64 T.lits) (.slice fa T.foes.length fc) (.slice ra T.rules.length rc) (.slice ba T.beats.length bc)
  have hfl := h.foes.lim
  obtain ⟨r, hr⟩ : ∃ r, foeM T = r := ⟨_, rfl⟩
  rw [hr]
  unfold foeM at hr
  clear h
  by_cases hne : (T.foes.length : Int) ≠ T.lits
  · rw [if_pos hne] at hr
    have HR := hide hr
    have hnb : ((T.foes.length : Int) != T.lits) = true := by simpa using hne
    clear hr hne
    have HB := hide hB
    clear hB hL
    go_enter Try.func50, Try.ntmps50
    go_upto_region 1 with fail
    generalize w.alloc (.cells #[.int .i64 T.lits, .slice fa T.foes.length fc, .slice ra T.rules.length rc, .slice ba T.beats.length bc] 27) = W at *
    obtain ⟨-, c0, c1, c2, c3⟩ := hX
    go_wp2_with fail
    go_ret2
    exact ⟨ret_dup HR.out, HB.out⟩
  · rw [if_neg hne] at hr
    have hlen : (T.foes.length : Int) = T.lits := Decidable.byContradiction hne
    have hnb : ((T.foes.length : Int) != T.lits) = false := by simpa using hlen
    have HO : Hid (atM 121 (firstB (badFoe T) 0 (T.foes.drop 0)) = r) := hide (by rw [List.drop_zero]; exact hr)
    have HLen := hide hlen
    clear hr hne hlen
    go_enter Try.func50, Try.ntmps50
    go_upto_region 1 with fail
    generalize w.alloc (.cells #[.int .i64 T.lits, .slice fa T.foes.length fc, .slice ra T.rules.length rc, .slice ba T.beats.length bc] 27) = W at *
    obtain ⟨hbx, c0, c1, c2, c3⟩ := hX
    have HL := hide hL
    have HB := hide hB
    have HX := hide hbx
    clear hL hB hbx
    go_wp2_with fail
    go_loopw [15] (fun x wr => ∃ k : Nat, k ≤ T.foes.length ∧ x = .int .i64 k ∧ Hid (atM 121 (firstB (badFoe T) k (T.foes.drop k)) = r) ∧ Hid (Below W.heap.size W wr)) (fun x _ => T.foes.length - (intOf x).toNat)
    case atStart => exact ⟨0, by omega, rfl, HO, hide (Below.refl _ _)⟩
    case round =>
      clear HO c0 c1 c2 c3
      obtain ⟨k, hk, rfl, HK, HW⟩ := hrel
      have hbw : wr.heap[w.heap.size]? = some (.cells #[.int .i64 T.lits, .slice fa T.foes.length fc, .slice ra T.rules.length rc, .slice ba T.beats.length bc] 27 (0, 0)) := (HW.out.block _ (loc_lt HX.out)).trans HX.out
      obtain ⟨-, c0, c1, c2, c3⟩ := Bt.of hbw
      have hLw := TR.go HW.out HL.out
      have HBW := hide (HB.out.trans (HW.out.mono HB.out.size))
      clear hbw
      by_cases hlt : k < T.foes.length
      · obtain ⟨l, hl⟩ := get_at hlt
        obtain ⟨g, of, a2, d2, rfl, -, kc, hc2, hll, hI⟩ := at_L hLw.foes hl
        have CR := hide (rising_any (c := d2) hI.at1 hll T.lits)
        have CH := hide (has_any (c := d2) hI.at1 hll k)
        have HF := hide hLw.foes
        have HY := hide (first_yes (p := badFoe T) hl)
        have HN := hide (first_no (p := badFoe T) hl)
        have HGet := hide hl
        have HW2 := hide (fun (X : World) (hX : Below wr.heap.size wr X) => HW.out.trans (hX.mono HW.out.size))
        have HBX := hide (fun (X : World) (hX : Below wr.heap.size wr X) => HBW.out.trans (hX.mono HBW.out.size))
        clear hl hI hLw
        by_cases h64 : 64 < l.length
        · have HE : Hid ((121, (k : Int)) = r) := hide (by have := HK.out; rw [HY.out (by simp [badFoe, h64])] at this; exact this)
          clear HK HY HN
          go_wp2_with fail
          go_ret2
          exact ⟨ret_dup HE.out, HBW.out⟩
        · cases hri : risesM l T.lits with
          | false =>
            have HE : Hid ((121, (k : Int)) = r) := hide (by have := HK.out; rw [HY.out (by simp [badFoe, hri])] at this; exact this)
            rw [hri] at CR
            clear HK HY HN hri
            go_wp2_with (go_at_call 61; refine CR.out.mono ?_; rintro _ w1 ⟨rfl, hw⟩; subst w1)
            go_ret2
            exact ⟨ret_dup HE.out, HBW.out⟩
          | true =>
            have hmem : ∀ f ∈ l, 0 ≤ f ∧ f < (T.foes.length : Int) := fun f hf => by
              have := (rises_iff.1 hri).1 f hf
              have := HLen.out
              omega
            have CT := hide (returned_any (ra := ra) (rc := rc) (ba := ba) (bc := bc) HF.out HGet.out hmem)
            rw [hri] at CR
            by_cases hin : (k : Int) ∈ l
            · have HE : Hid ((121, (k : Int)) = r) := hide (by have := HK.out; rw [HY.out (by simp [badFoe, hin])] at this; exact this)
              rw [decide_eq_true hin] at CH
              clear HK HY HN hri hin hmem
              go_wp2_with (first | (go_at_call 61; refine CR.out.mono ?_; rintro _ w1 ⟨rfl, hw⟩; subst w1) | (go_at_call 62; refine CH.out.mono ?_; rintro _ w1 ⟨rfl, hw⟩; subst w1))
              go_ret2
              exact ⟨ret_dup HE.out, HBW.out⟩
            · rw [decide_eq_false hin] at CH
              cases hre : returnedM T.foes k l with
              | false =>
                have HE : Hid ((121, (k : Int)) = r) := hide (by have := HK.out; rw [HY.out (by simp [badFoe, hre])] at this; exact this)
                rw [hre] at CT
                clear HK HY HN hri hin hmem hre
                go_wp2_with (first | (go_at_call 61; refine CR.out.mono ?_; rintro _ w1 ⟨rfl, hw⟩; subst w1) | (go_at_call 62; refine CH.out.mono ?_; rintro _ w1 ⟨rfl, hw⟩; subst w1) | (go_at_call 63; refine CT.out.mono ?_; rintro _ w1 ⟨rfl, hw1⟩; have HX1 := hide (HBX.out w1 hw1); clear hw1))
                go_ret2
                exact ⟨ret_dup HE.out, HX1.out⟩
              | true =>
                have HE : Hid (atM 121 (firstB (badFoe T) (k + 1) (T.foes.drop (k + 1))) = r) := hide (by have := HK.out; rw [HN.out (by simp [badFoe, hre, hin, hri, h64])] at this; exact this)
                rw [hre] at CT
                clear HK HY HN hri hin hmem hre
                go_wp2_with (first | (go_at_call 61; refine CR.out.mono ?_; rintro _ w1 ⟨rfl, hw⟩; subst w1) | (go_at_call 62; refine CH.out.mono ?_; rintro _ w1 ⟨rfl, hw⟩; subst w1) | (go_at_call 63; refine CT.out.mono ?_; rintro _ w1 ⟨rfl, hw1⟩; have HX1 := hide (HW2.out w1 hw1); clear hw1))
                go_roundw
                case rel => exact ⟨k + 1, by omega, by go_num, HE, HX1⟩
                case measure => simp [intOf]; omega
      · have HE : Hid ((0, 0) = r) := hide (by have := HK.out; rw [drop_end (by omega)] at this; exact this)
        go_wp2_with fail
        go_ret2
        exact ⟨ret_dup HE.out, HBW.out⟩

set_option maxRecDepth 100000 in
set_option maxHeartbeats 6400000 in
theorem mayBe_any {w : World} {x : RuleM} {a : Option Addr} {c : Nat} (h : Ints w.heap.size w x.body (.slice a x.body.length c)) (lits : Int) :
    Calls Try.prog 64 #[.agg #[.int .i64 x.kind, .int .i64 x.head, .slice a x.body.length c], .int .i64 lits] w fun e w' => e = .returned (.bool (okRule lits x)) ∧ Below w.heap.size w w' := by
  have hB := below_new w (.cells #[.int .i64 x.kind, .int .i64 x.head, .slice a x.body.length c] 70)
  have hX := heap_alloc_new w (.cells #[.int .i64 x.kind, .int .i64 x.head, .slice a x.body.length c] 70)
  have hI := h.go hB
  have hll := h.lim
  obtain ⟨o, ho⟩ : ∃ o, okRule lits x = o := ⟨_, rfl⟩
  rw [ho]
  unfold okRule at ho
  clear h
  by_cases hk : x.kind = 1 ∨ x.kind = 2 ∨ x.kind = 3
  · have hk' : (decide (x.kind = 1) || decide (x.kind = 2) || decide (x.kind = 3)) = true := by simpa [or_assoc] using hk
    rw [hk', Bool.true_and] at ho
    have HO := hide ho
    have hk1 : x.kind = 1 ∨ (¬ x.kind = 1 ∧ x.kind = 2) ∨ (¬ x.kind = 1 ∧ ¬ x.kind = 2 ∧ x.kind = 3) := by omega
    clear hk hk' ho
    obtain ⟨kd, hkd⟩ : ∃ kd, x.kind = kd := ⟨_, rfl⟩
    rw [hkd] at hk1 hB hX hI ⊢
    clear hkd
    go_enter Try.func64, Try.ntmps64
    go_upto_region 1 with fail
    generalize w.alloc (.cells #[.int .i64 kd, .int .i64 x.head, .slice a x.body.length c] 70) = W at *
    have c0 := cell_of_row W _ 0 _ _ _ hX
    have c1 := cell_of_row W _ 1 _ _ _ hX
    have c2 := cell_of_row W _ 2 _ _ _ hX
    simp only [List.getElem?_toArray, List.getElem?_cons_zero, List.getElem?_cons_succ] at c0 c1 c2
    have HB := hide hB
    have CW := hide (within_any x.head lits W)
    have CR := hide (rising_any (c := c) hI.at1 hll lits)
    clear hX hB hI
    cases hin : inM x.head lits with
    | false =>
      have HE : Hid (false = o) := hide (by have := HO.out; rw [hin] at this; simpa using this)
      rw [hin] at CW
      clear HO hin
      rcases hk1 with e | ⟨h1, e⟩ | ⟨h1, h2, e⟩
      all_goals
        subst e
        go_wp2_with (go_at_call 33; refine CW.out.mono ?_; rintro _ w1 ⟨rfl, hw⟩; subst w1)
        go_ret
        exact ⟨ret_bool HE.out, HB.out⟩
    | true =>
      rw [hin] at CW
      by_cases h16 : x.body.length ≤ 16
      · have HE : Hid (risesM x.body lits = o) := hide (by have := HO.out; rw [hin] at this; simpa [h16] using this)
        rw [HE.out] at CR
        clear HO hin
        rcases hk1 with e | ⟨h1, e⟩ | ⟨h1, h2, e⟩
        all_goals
          subst e
          go_wp2_with (first | (go_at_call 33; refine CW.out.mono ?_; rintro _ w1 ⟨rfl, hw⟩; subst w1) | (go_at_call 61; refine CR.out.mono ?_; rintro _ w1 ⟨rfl, hw⟩; subst w1))
          go_ret
          exact ⟨rfl, HB.out⟩
      · have HE : Hid (false = o) := hide (by have := HO.out; rw [hin] at this; simpa [h16] using this)
        clear HO hin
        rcases hk1 with e | ⟨h1, e⟩ | ⟨h1, h2, e⟩
        all_goals
          subst e
          go_wp2_with (go_at_call 33; refine CW.out.mono ?_; rintro _ w1 ⟨rfl, hw⟩; subst w1)
          go_ret
          exact ⟨ret_bool HE.out, HB.out⟩
  · have HE : Hid (false = o) := hide (by
      have e : (decide (x.kind = 1) || decide (x.kind = 2) || decide (x.kind = 3)) = false := by simpa [or_assoc, and_assoc] using hk
      rw [e] at ho
      simpa using ho)
    have h1 : (x.kind == 1) = false := beq_eq_false_iff_ne.2 (by omega)
    have h2 : (x.kind == 2) = false := beq_eq_false_iff_ne.2 (by omega)
    have h3 : (x.kind == 3) = false := beq_eq_false_iff_ne.2 (by omega)
    have n1 : ¬ x.kind = 1 := by omega
    have n2 : ¬ x.kind = 2 := by omega
    have n3 : ¬ x.kind = 3 := by omega
    clear hk ho
    generalize x.kind = kd at *
    go_enter Try.func64, Try.ntmps64
    go_upto_region 1 with fail
    generalize w.alloc (.cells #[.int .i64 kd, .int .i64 x.head, .slice a x.body.length c] 70) = W at *
    have c0 := cell_of_row W _ 0 _ _ _ hX
    simp only [List.getElem?_toArray, List.getElem?_cons_zero] at c0
    have HB := hide hB
    clear hX hB hI
    go_wp2_with fail
    go_ret
    exact ⟨ret_bool HE.out, HB.out⟩

set_option maxRecDepth 100000 in
set_option maxHeartbeats 12800000 in
theorem ruleFault_any {w : World} {T : Th} {fa ra ba : Option Addr} {fc rc bc : Nat} (h : TA w.heap.size w T fa fc ra rc ba bc) :
    Calls Try.prog 51 #[tv T fa fc ra rc ba bc] w fun e w' => e = .returned (dup (ruleM T)) ∧ Below w.heap.size w w' := by
  have hB := below_new w (.cells #[.int .i64 T.lits, .slice fa T.foes.length fc, .slice ra T.rules.length rc, .slice ba T.beats.length bc] 27)
  have hL := TR.go hB h
  have hX := Bt.new w (.int .i64 T.lits) (.slice fa T.foes.length fc) (.slice ra T.rules.length rc) (.slice ba T.beats.length bc)
  have hfl := h.rules.lim
  obtain ⟨r, hr⟩ : ∃ r, ruleM T = r := ⟨_, rfl⟩
  rw [hr]
  unfold ruleM at hr
  clear h
  by_cases hne : 4096 < T.rules.length
  · rw [if_pos hne] at hr
    have HR := hide hr
    clear hr
    have HB := hide hB
    clear hB hL
    go_enter Try.func51, Try.ntmps51
    go_upto_region 1 with fail
    generalize w.alloc (.cells #[.int .i64 T.lits, .slice fa T.foes.length fc, .slice ra T.rules.length rc, .slice ba T.beats.length bc] 27) = W at *
    obtain ⟨-, c0, c1, c2, c3⟩ := hX
    go_wp2_with fail
    go_ret2
    exact ⟨ret_dup HR.out, HB.out⟩
  · rw [if_neg hne] at hr
    have HO : Hid (atM 122 (firstB (fun _ r => !okRule T.lits r) 0 (T.rules.drop 0)) = r) := hide (by rw [List.drop_zero]; exact hr)
    clear hr
    go_enter Try.func51, Try.ntmps51
    go_upto_region 1 with fail
    generalize w.alloc (.cells #[.int .i64 T.lits, .slice fa T.foes.length fc, .slice ra T.rules.length rc, .slice ba T.beats.length bc] 27) = W at *
    obtain ⟨hbx, c0, c1, c2, c3⟩ := hX
    have HL := hide hL
    have HB := hide hB
    have HX := hide hbx
    clear hL hB hbx
    go_wp2_with fail
    go_loopw [13] (fun x wr => ∃ k : Nat, k ≤ T.rules.length ∧ x = .int .i64 k ∧ Hid (atM 122 (firstB (fun _ r => !okRule T.lits r) k (T.rules.drop k)) = r) ∧ Hid (Below W.heap.size W wr)) (fun x _ => T.rules.length - (intOf x).toNat)
    case atStart => exact ⟨0, by omega, rfl, HO, hide (Below.refl _ _)⟩
    case round =>
      clear HO c0 c1 c2 c3
      obtain ⟨k, hk, rfl, HK, HW⟩ := hrel
      have hbw : wr.heap[w.heap.size]? = some (.cells #[.int .i64 T.lits, .slice fa T.foes.length fc, .slice ra T.rules.length rc, .slice ba T.beats.length bc] 27 (0, 0)) := (HW.out.block _ (loc_lt HX.out)).trans HX.out
      have hLw := TR.go HW.out HL.out
      have HBW := hide (HB.out.trans (HW.out.mono HB.out.size))
      by_cases hlt : k < T.rules.length
      · obtain ⟨x, hx⟩ := get_at hlt
        obtain ⟨g, of, a2, d2, rfl, -, k0, k1, k2, hc2, hll, hI⟩ := at_R hLw.rules hx
        have HY := hide (first_yes (p := fun _ r => !okRule T.lits r) hx)
        have HN := hide (first_no (p := fun _ r => !okRule T.lits r) hx)
        have hA := below_new wr (.cells #[.int .i64 x.kind, .int .i64 x.head, .slice a2 x.body.length d2] 70)
        have hXr := heap_alloc_new wr (.cells #[.int .i64 x.kind, .int .i64 x.head, .slice a2 x.body.length d2] 70)
        have hbw2 := (hA.block _ (loc_lt hbw)).trans hbw
        have CM := hide (mayBe_any (hI.go hA) T.lits)
        have HA := hide hA
        clear hx hI hLw hA hbw
        go_upto_region 6 with fail
        generalize wr.alloc (.cells #[.int .i64 x.kind, .int .i64 x.head, .slice a2 x.body.length d2] 70) = W2 at *
        obtain ⟨-, c0, c1, c2, c3⟩ := Bt.of hbw2
        have r0 := cell_of_row W2 _ 0 _ _ _ hXr
        have r1 := cell_of_row W2 _ 1 _ _ _ hXr
        have r2 := cell_of_row W2 _ 2 _ _ _ hXr
        simp only [List.getElem?_toArray, List.getElem?_cons_zero, List.getElem?_cons_succ] at r0 r1 r2
        have HW2 := hide (fun (X : World) (hX : Below W2.heap.size W2 X) => HW.out.trans ((HA.out.trans (hX.mono HA.out.size)).mono HW.out.size))
        have HBX := hide (fun (X : World) (hX : Below W2.heap.size W2 X) => HBW.out.trans ((HA.out.trans (hX.mono HA.out.size)).mono HBW.out.size))
        clear hXr hbw2 HA k0 k1 k2
        cases hok : okRule T.lits x with
        | false =>
          have HE : Hid ((122, (k : Int)) = r) := hide (by have := HK.out; rw [HY.out (by simp [hok])] at this; exact this)
          rw [hok] at CM
          clear HK HY HN hok
          go_wp2_with (go_at_call 64; refine CM.out.mono ?_; rintro _ w1 ⟨rfl, hw1⟩; have HX1 := hide (HBX.out w1 hw1); clear hw1)
          go_ret2
          exact ⟨ret_dup HE.out, HX1.out⟩
        | true =>
          have HE : Hid (atM 122 (firstB (fun _ r => !okRule T.lits r) (k + 1) (T.rules.drop (k + 1))) = r) := hide (by have := HK.out; rw [HN.out (by simp [hok])] at this; exact this)
          rw [hok] at CM
          clear HK HY HN hok
          go_wp2_with (go_at_call 64; refine CM.out.mono ?_; rintro _ w1 ⟨rfl, hw1⟩; have HX1 := hide (HW2.out w1 hw1); clear hw1)
          go_roundw
          case rel => exact ⟨k + 1, by omega, by go_num, HE, HX1⟩
          case measure => simp [intOf]; omega
      · have HE : Hid ((0, 0) = r) := hide (by have := HK.out; rw [drop_end (by omega)] at this; exact this)
        go_wp2_with fail
        go_ret2
        exact ⟨ret_dup HE.out, HBW.out⟩
end Go.Proofs.Ytdmnoeooljofcaa
