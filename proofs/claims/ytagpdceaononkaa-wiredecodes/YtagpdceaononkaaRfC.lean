/- The document's Check. -/
import Derived.Test.YtagpdceaononkaaWChk
namespace Go.Proofs.Ytagpdceaononkaa
open Go.RowKit

theorem may_parts {s : StM} (h : mayM s = false) : (s.tag < 1 ∨ 4 < s.tag ∨ s.how < 1 ∨ 5 < s.how ∨ s.lit < 0 ∨ 4096 ≤ s.lit ∨ s.rule < -1 ∨ 4096 ≤ s.rule ∨ 4096 < s.ch.length) ∨ ¬ ∀ x ∈ s.ch, chM x = true := by
  apply Classical.byContradiction
  intro hn
  rw [not_or] at hn
  obtain ⟨h1, h2⟩ := hn
  have h2 := Classical.not_not.1 h2
  have : mayM s = true := by
    rw [may_iff]
    refine ⟨by omega, by omega, by omega, by omega, by omega, by omega, by omega, by omega, by omega, fun x hx => ?_⟩
    have := h2 x hx
    unfold chM at this
    simp only [Bool.and_eq_true, wi_iff] at this
    exact this
  rw [h] at this
  cases this
theorem chM_iff {x : Int × Int} : chM x = true ↔ (-1 ≤ x.1 ∧ x.1 ≤ 15) ∧ -1 ≤ x.2 ∧ x.2 ≤ 4095 := by
  unfold chM
  simp only [Bool.and_eq_true, wi_iff]
def headM (s : StM) : Prop := 1 ≤ s.tag ∧ s.tag ≤ 4 ∧ 1 ≤ s.how ∧ s.how ≤ 5 ∧ 0 ≤ s.lit ∧ s.lit ≤ 4095 ∧ -1 ≤ s.rule ∧ s.rule ≤ 4095 ∧ s.ch.length ≤ 4096
theorem may_head {s : StM} (h : ¬ headM s) : mayM s = false := by
  cases hm : mayM s with
  | false => rfl
  | true =>
    have := may_iff.1 hm
    exact absurd ⟨this.t0, this.t1, this.h0, this.h1, this.l0, this.l1, this.r0, this.r1, this.cl⟩ h
theorem may_of {s : StM} (h : headM s) : mayM s = s.ch.all chM := by
  obtain ⟨a, b, c, d, e, f, g, i, j⟩ := h
  unfold mayM
  rw [wi_iff.2 ⟨a, b⟩, wi_iff.2 ⟨c, d⟩, wi_iff.2 ⟨e, f⟩, wi_iff.2 ⟨g, i⟩, decide_eq_true j]
  rfl
theorem all_step {l : List (Int × Int)} {k : Nat} {x : Int × Int} (h : l[k]? = some x) : (l.drop k).all chM = (chM x && (l.drop (k + 1)).all chM) := by rw [drop_at h]; rfl
set_option maxRecDepth 100000 in
set_option maxHeartbeats 12800000 in
theorem rcheck_any {N : Nat} {w : World} {l : List StM} {a : Option Addr} {c : Nat} (hN : N ≤ w.heap.size) (hl : l.length ≤ 140737488351232) (h : Sts N w l a) :
    Calls Try.prog 10 #[.slice a l.length c] w fun e w' => e = .returned (dup (chkM l)) ∧ Below w.heap.size w w' := by
  by_cases hbig : 65536 < l.length
  · have hm : (3, 0) = chkM l := by unfold chkM; rw [if_pos hbig]
    have HM := hide hm
    clear h hm
    go_enter Try.func10, Try.ntmps10
    go_wp2_with fail
    go_ret2
    exact ⟨ret_dup HM.out, Below.refl _ _⟩
  · obtain ⟨o, ho⟩ : ∃ o, chkM l = o := ⟨_, rfl⟩
    rw [ho]
    have HO : Hid (chkF 0 (l.drop 0) = o) := hide (by rw [← ho, List.drop_zero]; unfold chkM; rw [if_neg hbig])
    have HH := hide h
    have HN := hide hN
    clear h ho hN
    go_enter Try.func10, Try.ntmps10
    go_wp2_with fail
    go_loopw [4] (fun x wr => ∃ (k : Nat), k ≤ l.length ∧ x = .int .i64 k ∧ Hid (chkF k (l.drop k) = o) ∧ Hid (Below w.heap.size w wr)) (fun x _ => l.length - (intOf x).toNat)
    case atStart => exact ⟨0, by omega, rfl, HO, hide (Below.refl _ _)⟩
    case round =>
      clear HO
      obtain ⟨k, hk, rfl, HK, HB⟩ := hrel
      by_cases hlt : k < l.length
      · obtain ⟨s, hs⟩ := get_at hlt
        obtain ⟨g, of, ca, cc, rfl, -, c0, c1, c2, c3, c4, hcl, hch⟩ := (HH.out.keep (w' := wr) fun g hg => HB.out.block g (by have := HN.out; omega)) k s hs
        have HS := hide (HK.out.symm.trans (chk_step hs))
        have hA := below_new wr (.cells (stc s ca cc).toArray 52)
        have hF := fx_new wr (stc s ca cc) 52
        have HB2 := hide (HB.out.trans (hA.mono HB.out.size))
        have HCH := hide (hch.keep (w' := wr.alloc (.cells (stc s ca cc).toArray 52)) fun g hg => hA.block g (by have := HN.out; have := HB.out.size; omega))
        have HN2 : Hid (N ≤ (wr.alloc (.cells (stc s ca cc).toArray 52)).heap.size) := hide (by have := HN.out; have := HB2.out.size; omega)
        clear hs hch HK hA
        go_upto_region 7 with fail
        unfold stc at HB2 hF HCH HN2
        generalize wr.alloc (.cells [.int .i64 s.tag, .int .i64 s.lit, .int .i64 s.how, .int .i64 s.rule, .slice ca s.ch.length cc].toArray 52) = w2 at *
        clear c0 c1 c2 c3 c4
        have HX := hide hF
        have hbl : wr.heap.size < w2.heap.size := hF.lt
        obtain ⟨q0, q1, q2, q3, q4⟩ := five_cells hF
        clear hF
        obtain ⟨b, hb⟩ : ∃ b, wr.heap.size = b := ⟨_, rfl⟩
        rw [hb] at HX hbl q0 q1 q2 q3 q4
        simp only [hb]
        clear hb
        have HBAD : Hid (¬ headM s → (201, (k : Int)) = o) := hide fun hn => (HS.out.trans (if_neg (by rw [may_head hn]; decide))).symm
        by_cases d0 : s.tag < 1
        · have HR := hide (HBAD.out (by unfold headM; omega))
          clear HBAD HS HCH
          go_wp2_with fail
          go_ret2
          exact ⟨ret_dup HR.out, HB2.out⟩
        by_cases d1 : 4 < s.tag
        · have HR := hide (HBAD.out (by unfold headM; omega))
          clear HBAD HS HCH
          go_wp2_with fail
          go_ret2
          exact ⟨ret_dup HR.out, HB2.out⟩
        by_cases d2 : s.how < 1
        · have HR := hide (HBAD.out (by unfold headM; omega))
          clear HBAD HS HCH
          go_wp2_with fail
          go_ret2
          exact ⟨ret_dup HR.out, HB2.out⟩
        by_cases d3 : 5 < s.how
        · have HR := hide (HBAD.out (by unfold headM; omega))
          clear HBAD HS HCH
          go_wp2_with fail
          go_ret2
          exact ⟨ret_dup HR.out, HB2.out⟩
        by_cases d4 : s.lit < 0
        · have HR := hide (HBAD.out (by unfold headM; omega))
          clear HBAD HS HCH
          go_wp2_with fail
          go_ret2
          exact ⟨ret_dup HR.out, HB2.out⟩
        by_cases d5 : 4096 ≤ s.lit
        · have HR := hide (HBAD.out (by unfold headM; omega))
          clear HBAD HS HCH
          go_wp2_with fail
          go_ret2
          exact ⟨ret_dup HR.out, HB2.out⟩
        by_cases d6 : s.rule < -1
        · have HR := hide (HBAD.out (by unfold headM; omega))
          clear HBAD HS HCH
          go_wp2_with fail
          go_ret2
          exact ⟨ret_dup HR.out, HB2.out⟩
        by_cases d7 : 4096 ≤ s.rule
        · have HR := hide (HBAD.out (by unfold headM; omega))
          clear HBAD HS HCH
          go_wp2_with fail
          go_ret2
          exact ⟨ret_dup HR.out, HB2.out⟩
        by_cases d8 : 4096 < s.ch.length
        · have HR := hide (HBAD.out (by unfold headM; omega))
          clear HBAD HS HCH
          go_wp2_with fail
          go_ret2
          exact ⟨ret_dup HR.out, HB2.out⟩
        have HSA : Hid ((if (s.ch.drop 0).all chM then chkF (k + 1) (l.drop (k + 1)) else (201, (k : Int))) = o) := hide (by rw [List.drop_zero, ← may_of (by unfold headM; omega)]; exact HS.out.symm)
        clear HS HBAD
        go_upto_region 10 with fail
        go_loopw [6] (fun x wr => ∃ (m : Nat), m ≤ s.ch.length ∧ x = .int .i64 m ∧ Hid ((if (s.ch.drop m).all chM then chkF (k + 1) (l.drop (k + 1)) else (201, (k : Int))) = o) ∧ Hid (Below w2.heap.size w2 wr)) (fun x _ => s.ch.length - (intOf x).toNat)
        case atStart => exact ⟨0, by omega, rfl, HSA, hide (Below.refl _ _)⟩
        case round =>
          clear HSA q0 q1 q2 q3 q4
          obtain ⟨m, hm, rfl, HK2, HB3⟩ := hrel
          obtain ⟨q0, q1, q2, q3, q4⟩ := five_cells (HX.out.keep (HB3.out.block _ hbl))
          by_cases hlt2 : m < s.ch.length
          · obtain ⟨x, hx⟩ := get_at hlt2
            obtain ⟨g2, o2, rfl, -, d0, d1⟩ := (HCH.out.keep fun g hg => HB3.out.block g (by have := HN2.out; omega)) m x hx
            have HS2 := HK2
            rw [all_step hx] at HS2
            have HBAD : Hid (chM x = false → (201, (k : Int)) = o) := hide fun hn => by have := HS2.out; rw [hn] at this; exact this
            have HGOOD : Hid (chM x = true → (if (s.ch.drop (m + 1)).all chM then chkF (k + 1) (l.drop (k + 1)) else (201, (k : Int))) = o) := hide fun hn => by have := HS2.out; rw [hn, Bool.true_and] at this; exact this
            have HBF := hide (HB2.out.trans (HB3.out.mono HB2.out.size))
            clear hx HK2 HS2
            go_upto_region 13 with fail
            have hX := fx_new wr [.int .i64 x.1, .int .i64 x.2] 54
            have hA := below_new wr (.cells #[.int .i64 x.1, .int .i64 x.2] 54)
            have HB4 := hide (HB3.out.trans (hA.mono HB3.out.size))
            have HBG := hide (HBF.out.trans (hA.mono HBF.out.size))
            clear hA
            generalize wr.alloc (.cells #[.int .i64 x.1, .int .i64 x.2] 54) = w5 at *
            have p0 : w5.cell? ⟨wr.heap.size, 0, none⟩ = some (.int .i64 x.1) := Fx.get hX rfl
            have p1 : w5.cell? ⟨wr.heap.size, 1, none⟩ = some (.int .i64 x.2) := Fx.get hX rfl
            clear hX d0 d1
            generalize wr.heap.size = b2 at *
            by_cases y0 : x.1 < -1
            · have HR := hide (HBAD.out (by cases hc : chM x with
                | false => rfl
                | true => have := chM_iff.1 hc; omega))
              clear HBAD HGOOD
              go_wp2_with fail
              go_ret2
              exact ⟨ret_dup HR.out, HBG.out⟩
            by_cases y1 : 16 ≤ x.1
            · have HR := hide (HBAD.out (by cases hc : chM x with
                | false => rfl
                | true => have := chM_iff.1 hc; omega))
              clear HBAD HGOOD
              go_wp2_with fail
              go_ret2
              exact ⟨ret_dup HR.out, HBG.out⟩
            by_cases y2 : x.2 < -1
            · have HR := hide (HBAD.out (by cases hc : chM x with
                | false => rfl
                | true => have := chM_iff.1 hc; omega))
              clear HBAD HGOOD
              go_wp2_with fail
              go_ret2
              exact ⟨ret_dup HR.out, HBG.out⟩
            by_cases y3 : 4096 ≤ x.2
            · have HR := hide (HBAD.out (by cases hc : chM x with
                | false => rfl
                | true => have := chM_iff.1 hc; omega))
              clear HBAD HGOOD
              go_wp2_with fail
              go_ret2
              exact ⟨ret_dup HR.out, HBG.out⟩
            have HR := hide (HGOOD.out (chM_iff.2 (by omega)))
            clear HBAD HGOOD
            go_wp2_with fail
            go_roundw
            case rel => exact ⟨m + 1, by omega, by go_num, HR, HB4⟩
            case measure => simp [intOf]; omega
          · have HR : Hid (chkF (k + 1) (l.drop (k + 1)) = o) := hide (by have := HK2.out; rw [drop_end (by omega)] at this; exact this)
            clear HK2
            go_wp2_with fail
            go_roundw
            case rel => exact ⟨k + 1, by omega, by go_num, HR, hide (HB2.out.trans (HB3.out.mono HB2.out.size))⟩
            case measure => simp [intOf]; omega
      · have HE : Hid ((0, (l.length : Int)) = o) := hide (by have := HK.out; rw [drop_end (by omega)] at this; rw [← this, show k = l.length by omega]; rfl)
        clear HK
        go_wp2_with fail
        go_ret2
        exact ⟨ret_dup HE.out, HB.out⟩
end Go.Proofs.Ytagpdceaononkaa
