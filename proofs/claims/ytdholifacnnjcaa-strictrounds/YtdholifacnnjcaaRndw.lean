/- StrictRounds walked. -/
import Derived.Test.YtdholifacnnjcaaOks
namespace Go.Proofs.Ytdholifacnnjcaa
open Go.RowKit

/-- What the law's first loop keeps: there, the heights, the marks, the theory's box. -/
structure Rst (n g rr nr : Nat) (rd : List Int) (N B : List Bool) (k : Nat) (mo : Nat) (tb : Nat) (tx : List Value) (w : World) : Prop where
  fx : Fx g 4 (bools B) w
  fr : Fx rr 3 (ints rd) w
  fn : Fx nr 4 (bools N) w
  tb : Fx tb 25 tx w
  ne : g ≠ nr
  bl : B.length = n + 2
  ba : ∀ v : Nat, v ≤ n → (B.getD v false = true ↔ ∃ z : Nat, z < k ∧ rd.getD z 0 = v)
  mo : mo ≤ n ∧ (∀ z : Nat, z < k → rd.getD z 0 ≤ mo) ∧ (mo = 0 ∨ ∃ z : Nat, z < k ∧ rd.getD z 0 = mo)
theorem Rst.next {n g rr nr : Nat} {rd : List Int} {N B : List Bool} {k mo tb : Nat} {tx : List Value} {w : World} (h : Rst n g rr nr rd N B k mo tb tx w) {v : Nat} (hv : rd.getD k 0 = v) (hn : v ≤ n) : Rst n g rr nr rd N (B.set v true) (k + 1) (max mo v) tb tx (w.setCell ⟨g, v, none⟩ (.bool true)) := by
  refine ⟨by rw [← bools_set]; exact h.fx.set v _, h.fr.keep (other_set (fx_ne h.fr h.fx (by decide))), h.fn.keep (other_set (Ne.symm h.ne)), h.tb.keep (other_set (fx_ne h.tb h.fx (by decide))), h.ne, by rw [List.length_set]; exact h.bl, fun u hu => ?_, ?_⟩
  · rw [getD_set (by rw [h.bl]; omega)]
    by_cases e : u = v
    · subst e
      rw [if_pos rfl]
      exact ⟨fun _ => ⟨k, by omega, hv⟩, fun _ => rfl⟩
    · rw [if_neg e, h.ba u hu]
      constructor
      · rintro ⟨z, h1, h2⟩; exact ⟨z, by omega, h2⟩
      · rintro ⟨z, h1, h2⟩
        refine ⟨z, ?_, h2⟩
        have : z ≠ k := by rintro rfl; rw [hv] at h2; omega
        omega
  · obtain ⟨m1, m2, m3⟩ := h.mo
    refine ⟨by omega, fun z hz => ?_, ?_⟩
    · by_cases e : z = k
      · subst e; rw [hv]; omega
      · have := m2 z (by omega); omega
    · by_cases hm : v ≤ mo
      · rw [Nat.max_eq_left hm]
        rcases m3 with h | ⟨z, h1, h2⟩
        · exact .inl h
        · exact .inr ⟨z, by omega, h2⟩
      · rw [Nat.max_eq_right (by omega)]
        exact .inr ⟨k, by omega, hv⟩
set_option maxRecDepth 100000 in
set_option maxHeartbeats 12800000 in
theorem rounds_walk {w : World} {T : Th} {F : List Int} {fa ra ba ea : Option Addr} {fc rc bc ec : Nat} (h : TA w.heap.size w T fa fc ra rc ba bc) (hF : Ints w.heap.size w F (.slice ea F.length ec)) :
    Calls Try.prog 5 #[tv T fa fc ra rc ba bc, .slice ea F.length ec] w fun e w' => e = .returned (.bool true) ∧ Below w.heap.size w w' := by
  obtain ⟨iB, hiB, zB0, zB1, zB2⟩ := info_parts infoBo
  have hB := below_new w (.cells #[.int .i64 T.lits, .slice fa T.foes.length fc, .slice ra T.rules.length rc, .slice ba T.beats.length bc] 25)
  have hX := heap_alloc_new w (.cells #[.int .i64 T.lits, .slice fa T.foes.length fc, .slice ra T.rules.length rc, .slice ba T.beats.length bc] 25)
  have HLz : Hid (∀ X, Below (w.alloc (.cells #[.int .i64 T.lits, .slice fa T.foes.length fc, .slice ra T.rules.length rc, .slice ba T.beats.length bc] 25)).heap.size (w.alloc (.cells #[.int .i64 T.lits, .slice fa T.foes.length fc, .slice ra T.rules.length rc, .slice ba T.beats.length bc] 25)) X → TA X.heap.size X T fa fc ra rc ba bc) := hide fun X hX => TR.go hX (TR.go hB h)
  have HFz : Hid (∀ X, Below (w.alloc (.cells #[.int .i64 T.lits, .slice fa T.foes.length fc, .slice ra T.rules.length rc, .slice ba T.beats.length bc] 25)).heap.size (w.alloc (.cells #[.int .i64 T.lits, .slice fa T.foes.length fc, .slice ra T.rules.length rc, .slice ba T.beats.length bc] 25)) X → Ints X.heap.size X F (.slice ea F.length ec)) := hide fun X hX => Ints.go hX (Ints.go hB hF)
  have HXz : Hid (∀ X, Below (w.alloc (.cells #[.int .i64 T.lits, .slice fa T.foes.length fc, .slice ra T.rules.length rc, .slice ba T.beats.length bc] 25)).heap.size (w.alloc (.cells #[.int .i64 T.lits, .slice fa T.foes.length fc, .slice ra T.rules.length rc, .slice ba T.beats.length bc] 25)) X → X.heap[w.heap.size]? = some (.cells #[.int .i64 T.lits, .slice fa T.foes.length fc, .slice ra T.rules.length rc, .slice ba T.beats.length bc] 25 (0, 0))) := hide fun X hb => (hb.block _ (loc_lt hX)).trans hX
  have HB := hide hB
  obtain ⟨e0, he⟩ : ∃ a, faultM T F = a := ⟨_, rfl⟩
  have HE := hide he
  clear h hF hB hX he
  have CW := hide works_any
  go_enter Try.func5, Try.ntmps5
  go_upto_region 1 with fail
  generalize w.alloc (.cells #[.int .i64 T.lits, .slice fa T.foes.length fc, .slice ra T.rules.length rc, .slice ba T.beats.length bc] 25) = W at *
  go_upto_region 3 with (go_at_call 7; refine (CW.out _).mono ?_; rintro _ w1 ⟨rfl, hw1⟩; have HW1 := hide hw1; clear hw1)
  obtain ⟨-, c0, c1, c2, c3⟩ := Bt.of (HXz.out _ HW1.out)
  by_cases ha : e0 = 0
  · subst ha
    obtain ⟨-, hnm, hn, hn4, hrl, hbl, -⟩ := fault_ok HE.out
    obtain ⟨n, hnn⟩ : ∃ n, T.lits.toNat = n := ⟨_, rfl⟩
    rw [hnn] at hn hn4
    have HN := hide hnn
    have HN2 := hide hn
    have HSL : Hid ((sgM T F).length = n) := hide (by rw [sgM_len, hnn])
    have hm := fun X => run_make_fix (P := Try.prog) Try.underlying31 hiB zB0 zB1 rfl (n + 2) (by rw [zB2]; omega) (by unfold maxLen; omega) X
    have hcast : ((n + 2 : Nat) : Int) = (n : Int) + 2 := by omega
    simp only [hcast] at hm
    have CH := hide (heights_ok (HLz.out _ HW1.out) (HFz.out _ HW1.out) HE.out hnn)
    clear hnm hn hbl hnn hrl hcast
    go_upto_region 4 with (go_at_call 12; refine CH.out.mono ?_; rintro _ w2 ⟨rd, rr, rfl, hfin, hrr, hw2⟩; have HFN := hide hfin; have HRR := hide hrr; have HW2 := hide (HW1.out.trans (hw2.mono HW1.out.size)); clear hfin hrr hw2)
    clear c0 c1 c2 c3 CH
    obtain ⟨-, c0, c1, c2, c3⟩ := Bt.of (HXz.out _ HW2.out)
    have CN := hide (neither_ok (HLz.out _ HW2.out) (HFz.out _ HW2.out) HE.out)
    have hsl4 : (selM (sgM T F) 0).length ≤ 4096 := Nat.le_trans selM_len (by rw [HSL.out]; exact hn4)
    have HSI := hide (selM_in (sg := sgM T F) (i := 0))
    rw [HSL.out] at HSI
    obtain ⟨S0, hS0⟩ : ∃ l, selM (sgM T F) 0 = l := ⟨_, rfl⟩
    rw [hS0] at CN hsl4 HSI
    clear hS0
    go_upto_region 7 with (go_at_call 10; refine CN.out.mono ?_; rintro _ w3 ⟨xa, xc, rfl, hat, hw3⟩; have HAT := hide hat; have HW3 := hide (HW2.out.trans (hw3.mono HW2.out.size)); have HRR3 := hide (HRR.out.keep (hw3.block _ HRR.out.lt)); clear hat hw3)
    clear c0 c1 c2 c3 CN HRR
    obtain ⟨-, c0, c1, c2, c3⟩ := Bt.of (HXz.out _ HW3.out)
    rw [HN2.out] at c0
    have CM := hide (marked_any (c := xc) HAT.out hn4 (by omega) HSI.out.1 HSI.out.2.1)
    go_upto_region 8 with (go_at_call 11; refine CM.out.mono ?_; rintro _ w4 ⟨nr, N, rfl, hmk, hnf, hlo, hw4⟩; have HMK := hide hmk; have HNF := hide hnf; have HW4 := hide (HW3.out.trans (hw4.mono HW3.out.size)); have HRR4 := hide (HRR3.out.keep (hw4.block _ HRR3.out.lt)); clear hmk hnf hlo hw4)
    clear c0 c1 c2 c3 CM HRR3
    obtain ⟨-, c0, c1, c2, c3⟩ := Bt.of (HXz.out _ HW4.out)
    rw [HN2.out] at c0
    go_upto_region 13 with fail
    have hA := below_new w4 (.cells (Array.replicate (n + 2) (.bool false)) 4)
    obtain ⟨tx, htx⟩ : ∃ tx : List Value, tx = [.int .i64 T.lits, .slice fa T.foes.length fc, .slice ra T.rules.length rc, .slice ba T.beats.length bc] := ⟨_, rfl⟩
    have HTX := hide htx
    have HST : Hid (Rst n w4.heap.size rr nr rd N (List.replicate (n + 2) false) 0 0 w.heap.size tx (w4.alloc (.cells (Array.replicate (n + 2) (.bool false)) 4))) := hide ⟨by unfold Fx; rw [heap_alloc_new, bools_rep], HRR4.out.keep (hA.block _ HRR4.out.lt), HNF.out.keep (hA.block _ HNF.out.lt), by rw [htx]; exact (hA.block _ (loc_lt (HXz.out _ HW4.out))).trans (HXz.out _ HW4.out), by have := HNF.out.lt; omega, by simp, fun v hv => by rw [repF]; constructor; intro h; cases h; rintro ⟨z, h, -⟩; omega, by omega, fun z hz => by omega, .inl rfl⟩
    have HGL0 := HB.out.trans (HW4.out.mono HB.out.size)
    have HBr : Hid (Below w.heap.size w (w4.alloc (.cells (Array.replicate (n + 2) (.bool false)) 4))) := hide (HGL0.trans (hA.mono HGL0.size))
    have HGL : Hid (w.heap.size ≤ w4.heap.size) := hide HGL0.size
    generalize w4.alloc (.cells (Array.replicate (n + 2) (.bool false)) 4) = w5 at *
    clear hA c0 c1 c2 c3 hm HRR4 HNF HGL0 htx
    generalize w4.heap.size = g at *
    go_loopw [11, 13] (fun y x wr => ∃ (k mo : Nat) (B : List Bool), k ≤ n ∧ x = .int .i64 k ∧ y = .int .i64 mo ∧ Hid (Rst n g rr nr rd N B k mo w.heap.size tx wr) ∧ Hid (Below w.heap.size w wr)) (fun _ x _ => n - (intOf x).toNat)
    case atStart => exact ⟨0, 0, _, by omega, rfl, rfl, HST, HBr⟩
    case round =>
      clear HST HBr
      obtain ⟨k, mo, B, hk, rfl, rfl, HST, HBr⟩ := hrel
      have ct : wr.cell? ⟨w.heap.size, 0, none⟩ = some (.int .i64 n) := by have := HST.out.tb.get (i := 0) (v := .int .i64 T.lits) (by rw [HTX.out]; rfl); rw [HN2.out] at this; exact this
      by_cases hlt : k < n
      · obtain ⟨r1, r2, r3⟩ := HFN.out.rs k hlt
        obtain ⟨hm, hhm⟩ := Int.eq_ofNat_of_zero_le r2
        have hle := rounds_le HFN.out.lr (fun q hq => (HFN.out.rs q hq).2) hlt
        have HRDK := hide hhm
        have HHM : Hid (hm ≤ n) := hide (by omega)
        have ch := HST.out.fr.get (int_at (l := rd) (k := k) (by rw [HFN.out.lr]; exact hlt))
        have cn := HST.out.fn.get (bool_at (R := N) (k := k) (by rw [HMK.out.ln]; exact hlt))
        obtain ⟨b, hb⟩ : ∃ b, N.getD k false = b := ⟨_, rfl⟩
        have hbz : (hm == 0) = b := by
          rw [← hb, HMK.out.at_ k hlt]
          have h1 := HSI.out.2.2 k hlt
          rw [hhm] at r1
          by_cases hz : hm = 0
          · subst hz
            have := h1.2 (r1.1 rfl)
            simp [this]
          · have : ¬ (k : Int) ∈ S0 := fun h => hz (by have := r1.2 (h1.1 h); omega)
            simp [this, hz]
        rw [hb] at cn
        rw [hhm] at ch
        obtain ⟨hv, hhv⟩ : ∃ v : Int, (hm : Int) = v := ⟨_, rfl⟩
        have HHV := hide hhv
        have dv : (hv == 0) = b := by
          rw [← hbz, ← hhv]
          by_cases hz : hm = 0
          · subst hz; rfl
          · have h1 : ((hm : Int) == 0) = false := by simpa using hz
            have h2 : (hm == 0) = false := by simpa using hz
            rw [h1, h2]
        have d1 : decide (hv < 0) = false := by simp; omega
        have d2 : decide ((n : Int) < hv) = false := by simp; omega
        have d3 : decide (hv > (n : Int)) = false := by simp; omega
        rw [hhv] at ch
        have HLTT := hide hlt
        clear r1 r2 r3 hhm hle hb hbz hhv
        cases b with
        | true =>
            go_upto_region 15 with fail
            go_quiet (fail)
            have HST' : Hid (Rst n g rr nr rd N B k mo w.heap.size tx (wr.drewN nq)) := hide ⟨HST.out.fx, HST.out.fr, HST.out.fn, HST.out.tb, HST.out.ne, HST.out.bl, HST.out.ba, HST.out.mo⟩
            have HB' : Hid (Below w.heap.size w (wr.drewN nq)) := hide ⟨HBr.out.os, HBr.out.tape, HBr.out.output, HBr.out.size, HBr.out.block⟩
            clear ch cn ct dv d1 d2 d3 HST HBr
            generalize wr.drewN nq = w7 at *
            have hhv := HHV.out
            subst hhv
            have hhn := HHM.out
            have ch : w7.cell? ⟨rr, k, none⟩ = some (.int .i64 hm) := by have := HST'.out.fr.get (int_at (l := rd) (k := k) (by rw [HFN.out.lr]; exact hlt)); rw [HRDK.out] at this; exact this
            have cg := HST'.out.fx.get (bool_at (R := B) (k := hm) (by rw [HST'.out.bl]; omega))
            have fg := HST'.out.fx.frz hm
            have HNX := hide (HST'.out.next HRDK.out hhn)
            have HB2 := hide (HB'.out.setCell (p := ⟨g, hm, none⟩) HGL.out (.bool true))
            have ck : (w7.setCell ⟨g, hm, none⟩ (.bool true)).cell? ⟨rr, k, none⟩ = some (.int .i64 hm) := by have := HNX.out.fr.get (int_at (l := rd) (k := k) (by rw [HFN.out.lr]; exact hlt)); rw [HRDK.out] at this; exact this
            have HLT := hide hlt
            go_wp2_with fail
            go_roundw
            case rel =>
              refine ⟨k + 1, max mo hm, _, by have := HLT.out; omega, by go_num, ?_, HNX, HB2⟩
              congr 1
              by_cases hq : mo < hm
              · rw [if_pos hq, Nat.max_eq_right (by omega)]
              · rw [if_neg hq, Nat.max_eq_left (by omega)]
            case measure => have := HLT.out; simp [intOf]; omega
        | false =>
            go_upto_region 15 with fail
            go_quiet (fail)
            have HST' : Hid (Rst n g rr nr rd N B k mo w.heap.size tx (wr.drewN nq)) := hide ⟨HST.out.fx, HST.out.fr, HST.out.fn, HST.out.tb, HST.out.ne, HST.out.bl, HST.out.ba, HST.out.mo⟩
            have HB' : Hid (Below w.heap.size w (wr.drewN nq)) := hide ⟨HBr.out.os, HBr.out.tape, HBr.out.output, HBr.out.size, HBr.out.block⟩
            clear ch cn ct dv d1 d2 d3 HST HBr
            generalize wr.drewN nq = w7 at *
            have hhv := HHV.out
            subst hhv
            have hhn := HHM.out
            have ch : w7.cell? ⟨rr, k, none⟩ = some (.int .i64 hm) := by have := HST'.out.fr.get (int_at (l := rd) (k := k) (by rw [HFN.out.lr]; exact hlt)); rw [HRDK.out] at this; exact this
            have cg := HST'.out.fx.get (bool_at (R := B) (k := hm) (by rw [HST'.out.bl]; omega))
            have fg := HST'.out.fx.frz hm
            have HNX := hide (HST'.out.next HRDK.out hhn)
            have HB2 := hide (HB'.out.setCell (p := ⟨g, hm, none⟩) HGL.out (.bool true))
            have ck : (w7.setCell ⟨g, hm, none⟩ (.bool true)).cell? ⟨rr, k, none⟩ = some (.int .i64 hm) := by have := HNX.out.fr.get (int_at (l := rd) (k := k) (by rw [HFN.out.lr]; exact hlt)); rw [HRDK.out] at this; exact this
            have HLT := hide hlt
            go_wp2_with fail
            go_roundw
            case rel =>
              refine ⟨k + 1, max mo hm, _, by have := HLT.out; omega, by go_num, ?_, HNX, HB2⟩
              congr 1
              by_cases hq : mo < hm
              · rw [if_pos hq, Nat.max_eq_right (by omega)]
              · rw [if_neg hq, Nat.max_eq_left (by omega)]
            case measure => have := HLT.out; simp [intOf]; omega
      · have hkn : k = n := by omega
        subst hkn
        have HMO := hide HST.out.mo
        have hmo := HST.out.mo.1
        have hbl := HST.out.bl
        have HALL : Hid (∀ v : Nat, 1 ≤ v → v ≤ mo → B.getD v false = true) := hide (by
          intro v h1 h2
          rcases HMO.out.2.2 with h | ⟨z, hz, e⟩
          · omega
          · obtain ⟨y, hy, ey⟩ := rounds_all (fun q hq => (HFN.out.rs q hq).2) mo z hz e v h1 h2
            exact (HST.out.ba v (by omega)).2 ⟨y, hy, ey⟩)
        clear hlt
        go_upto_region 20 with fail
        clear ct
        go_loopw [14] (fun x wq => ∃ i : Nat, 1 ≤ i ∧ i ≤ mo + 1 ∧ x = .int .i64 i ∧ wq = wr) (fun x _ => mo + 1 - (intOf x).toNat)
        case atStart => exact ⟨1, by omega, by omega, rfl, rfl⟩
        case round =>
          obtain ⟨i, hi1, hi2, rfl, rfl⟩ := hrel
          by_cases hil : i ≤ mo
          · have cb := HST.out.fx.get (bool_at (R := B) (k := i) (by omega))
            rw [HALL.out i hi1 hil] at cb
            have HIL := hide hil
            go_wp2_with fail
            go_roundw
            case rel => exact ⟨i + 1, by omega, by have := HIL.out; omega, by go_num, by first | trivial | rfl⟩
            case measure => have := HIL.out; simp [intOf]; omega
          · have hi3 : ¬ ((i : Int) ≤ (mo : Int)) := by omega
            go_wp2_with fail
            go_ret
            exact ⟨rfl, HBr.out⟩
  · have hab2 : (e0 != 0) = true := by simpa using ha
    have hab3 : (e0 == e0) = true := by simp
    have CH := hide (heights_no (HLz.out _ HW1.out) (HFz.out _ HW1.out) HE.out ha)
    go_upto_region 4 with (go_at_call 12; refine CH.out.mono ?_; rintro _ w2 ⟨rfl, hw2⟩; have HW2 := hide (HW1.out.trans (hw2.mono HW1.out.size)); clear hw2)
    clear c0 c1 c2 c3 CH
    obtain ⟨-, c0, c1, c2, c3⟩ := Bt.of (HXz.out _ HW2.out)
    have CN := hide (neither_no (HLz.out _ HW2.out) (HFz.out _ HW2.out) HE.out ha)
    go_wp2_with (go_at_call 10; refine CN.out.mono ?_; rintro _ w3 ⟨rfl, hw3⟩; have HW3 := hide (HW2.out.trans (hw3.mono HW2.out.size)); clear hw3)
    go_ret
    exact ⟨rfl, HB.out.trans (HW3.out.mono HB.out.size)⟩
end Go.Proofs.Ytdholifacnnjcaa
