/- PriorOrders, walked. -/
import Derived.Test.YtjaffhajehcnpaaAlv
namespace Go.Proofs.Ytjaffhajehcnpaa
open Go.RowKit

/-- Where each stands, of the first i. -/
def PosI (out : List Nat) (n i : Nat) (A : List Int) : Prop := A.length = n ∧ ∀ k, k < n → A.getD k 0 = if out.idxOf k < i then ((out.idxOf k + 1 : Nat) : Int) else 0
section
variable {out : List Nat} {n i k : Nat} {A : List Int}
theorem PosI.start : PosI out n 0 (List.replicate n 0) := ⟨by simp, fun k hk => by simp [List.getD, hk]⟩
theorem idx_at {l : List Nat} (nd : l.Nodup) {i k : Nat} (h : l[i]? = some k) : l.idxOf k = i := by
  have hm := List.mem_of_getElem? h
  have hl := List.idxOf_lt_length_of_mem hm
  exact nd_inj nd (by rw [List.getElem?_eq_getElem hl, List.getElem_idxOf hl]) h
theorem PosI.zero (h : PosI out n i A) (nd : out.Nodup) (hk : out[i]? = some k) (hn : k < n) : A.getD k 0 = 0 := by
  rw [h.2 k hn, idx_at nd hk, if_neg (by omega)]
theorem PosI.more (h : PosI out n i A) (nd : out.Nodup) (hk : out[i]? = some k) (hn : k < n) : PosI out n (i + 1) (A.set k (i + 1 : Int)) := by
  refine ⟨by rw [List.length_set]; exact h.1, fun j hj => ?_⟩
  rw [set_get (by rw [h.1]; exact hn)]
  by_cases e : j = k
  · subst e
    rw [if_pos rfl, idx_at nd hk, if_pos (by omega)]
    simp
  · rw [if_neg e, h.2 j hj]
    have hne : out.idxOf j ≠ i := fun e2 => e (by
      have hil := (List.getElem?_eq_some_iff.1 hk).1
      have hl : out.idxOf j < out.length := by omega
      have := List.getElem_idxOf hl
      have h2 : out[out.idxOf j]? = some j := by rw [List.getElem?_eq_getElem hl, this]
      rw [e2, hk] at h2
      cases h2
      rfl)
    by_cases h3 : out.idxOf j < i
    · rw [if_pos h3, if_pos (by omega)]
    · rw [if_neg h3, if_neg (by omega)]
theorem PosI.all (h : PosI out n n A) (hl : out.length = n) (nd : out.Nodup) (hlt : ∀ a ∈ out, a < n) (hk : k < n) : A.getD k 0 = ((out.idxOf k + 1 : Nat) : Int) ∧ out[out.idxOf k]? = some k := by
  have hm := all_in nd hlt hl hk
  have hi := List.idxOf_lt_length_of_mem hm
  exact ⟨by rw [h.2 k hk, if_pos (by omega)], by rw [List.getElem?_eq_getElem hi, List.getElem_idxOf hi]⟩
end
set_option maxRecDepth 100000 in
set_option maxHeartbeats 12800000 in
theorem priorOrders_any {w : World} {next : List (List Int)} {a : Option Addr} {c : Nat} (h : Lists w.heap.size w next (.slice a next.length c)) (hn : next.length ≤ 1048576) (ht : total next ≤ 1048576) :
    Calls Try.prog 4 #[.slice a next.length c] w fun e w' => e = .returned (.bool true) ∧ Below w.heap.size w w' := by
  obtain ⟨iI, hiI, zI0, zI1, zI2⟩ := info_parts infoI
  have HL := hide h
  have HRL : Hid (∀ (i : Nat) (l : List Int), next[i]? = some l → l.length ≤ 1048576) := hide fun i l hi => Nat.le_trans (row_le hi) ht
  obtain ⟨n, hnn⟩ : ∃ n, next.length = n := ⟨_, rfl⟩
  have HNN := hide hnn
  have HC1 : Hid (∀ w1, Below w.heap.size w w1 → Calls Try.prog 8 #[.slice a n c] w1 _) := hide fun w1 hb => by rw [← hnn]; exact order_any (h.go hb) hn ht
  have HC2 : Hid (∀ w1, Below w.heap.size w w1 → Calls Try.prog 7 #[.slice a n c] w1 _) := hide fun w1 hb => by rw [← hnn]; exact cycle_any (h.go hb) hn ht
  rw [hnn] at hn HL ⊢
  clear h hnn
  go_enter Try.func4, Try.ntmps4
  go_upto_region 3 with (go_at_call 15; refine (alive_any w).mono ?_; rintro e w1 ⟨rfl, hb1⟩; have HB1 := hide hb1; clear hb1)
  go_upto_region 4 with (go_at_call 8; refine (HC1.out w1 HB1.out).mono ?_; rintro e w2 ⟨out, k1, k2, hb2, hcase⟩; have HK1 := hide k1; have HK2 := hide k2; have HB2 := hide (HB1.out.trans (hb2.mono HB1.out.size)); have HCS := hide hcase; have HSZ := hide hb2.size; clear k1 k2 hb2 hcase; rcases HCS.out with ⟨hol, rfl⟩ | ⟨hol, ov, rfl, hro⟩)
  · have HOL := hide hol
    clear hol HCS
    go_upto_region 5 with (go_at_call 7; refine (HC2.out w2 HB2.out).mono ?_; rintro e w3 ⟨hb3, hcase⟩; have HB3 := hide (HB2.out.trans (hb3.mono HB2.out.size)); have HCS := hide hcase; clear hb3 hcase; rcases HCS.out with ⟨l, v, rfl, hcy, hro⟩ | ⟨rfl, hac⟩)
    · clear hcy hro HCS
      go_wp2_with fail
      go_ret
      exact ⟨rfl, HB3.out⟩
    · exact (kahn_cyc HK2.out HOL.out hac).elim
  · obtain ⟨oa, oc, rfl⟩ := owns_slice hro
    have HOL := hide hol
    have HRO := hide (owns_at1 hro)
    rw [hol, HNN.out]
    clear hol hro HCS
    go_upto_region 5 with (go_at_call 7; refine (HC2.out w2 HB2.out).mono ?_; rintro e w3 ⟨hb3, hcase⟩; have HB3 := hide (HB2.out.trans (hb3.mono HB2.out.size)); have HCS := hide hcase; have HRO3 := hide (HRO.out.below hb3); clear hb3 hcase; rcases HCS.out with ⟨l, v, rfl, hcy, hro⟩ | ⟨rfl, hac⟩)
    · exact (acy_cyc (kahn_acy HK1.out HOL.out) hcy).elim
    · clear hac HCS HRO HK2
      have HON : Hid (out.length = n) := hide (HOL.out.trans HNN.out)
      have HN0 : Hid ((n : Int) = (n : Int)) := hide rfl
      go_upto_region 10 with (at_make; go_must (refine wpList_make_fix _ rfl _ _ 27 rfl 3 iI _ Try.underlying27 hiI zI0 zI1 rfl _ _ n rfl rfl HN0.out HN0.out (by rw [zI2]; omega) (by unfold maxLen; omega) ?_))
      have hs3 := HB3.out.size
      have bA := below_new w3 (.cells (Array.replicate n (.int .i64 0)) 3)
      have HF0 : Hid (Fx w3.heap.size 3 (ints (List.replicate n 0)) (w3.alloc (.cells (Array.replicate n (.int .i64 0)) 3))) := hide (by unfold Fx; rw [← ints_rep]; exact heap_alloc_new w3 _)
      have HB0 : Hid (Below w3.heap.size w3 (w3.alloc (.cells (Array.replicate n (.int .i64 0)) 3))) := hide bA
      have HP0 : Hid (PosI out n 0 (List.replicate n 0)) := hide PosI.start
      clear bA
      generalize w3.alloc (.cells (Array.replicate n (.int .i64 0)) 3) = w4 at *
      go_wp2_with fail
      go_loopw [8] (fun x wr => ∃ (i : Nat) (A : List Int), i ≤ n ∧ x = .int .i64 i ∧ Hid (PosI out n i A) ∧ Hid (Fx w3.heap.size 3 (ints A) wr) ∧ Hid (Below w3.heap.size w3 wr)) (fun x _ => n - (intOf x).toNat)
      case atStart => exact ⟨0, _, by omega, rfl, HP0, HF0, HB0⟩
      case round =>
        clear HP0 HF0 HB0
        obtain ⟨i, A, hi, rfl, HP, HF, HB⟩ := hrel
        by_cases hlt : i < n
        · obtain ⟨k, hk⟩ := get_at (l := out) (i := i) (by rw [HON.out]; exact hlt)
          have hkn : k < n := by have := kahn_lt HK1.out k (List.mem_of_getElem? hk); rw [HNN.out] at this; exact this
          obtain ⟨g1, o1, rfl, ck⟩ := (HRO3.out.below HB.out).get (x := (k : Int)) (i := i) (by unfold zn; rw [List.getElem?_map, hk]; rfl)
          have ca := HF.out.get (ints_at (l := A) (i := k) (by rw [HP.out.1]; exact hkn))
          rw [HP.out.zero (kahn_nd HK1.out) hk hkn] at ca
          have fa := HF.out.frz k
          have HP2 := hide (HP.out.more (kahn_nd HK1.out) hk hkn)
          have HF2 : Hid (Fx w3.heap.size 3 (ints (A.set k (i + 1 : Int))) (wr.setCell ⟨w3.heap.size, k, none⟩ (.int .i64 (i + 1 : Int)))) := hide (by rw [← ints_set]; exact HF.out.set k _)
          have HB2' := hide (HB.out.setCell (p := ⟨w3.heap.size, k, none⟩) (Nat.le_refl _) (.int .i64 (i + 1 : Int)))
          clear hk HP HF HB
          go_wp2_with fail
          go_roundw
          case rel => exact ⟨i + 1, _, by omega, by go_num, HP2, HF2, HB2'⟩
          case measure => simp [intOf]; omega
        · have HPn : Hid (PosI out n n A) := hide (by have := HP.out; rw [show i = n by omega] at this; exact this)
          have HW : Hid (Below w.heap.size w wr) := hide (HB3.out.trans (HB.out.mono hs3))
          have HAt : Hid (∀ k, k < n → A.getD k 0 = ((out.idxOf k + 1 : Nat) : Int) ∧ out[out.idxOf k]? = some k) := hide fun k hk => HPn.out.all HON.out (kahn_nd HK1.out) (by have := kahn_lt HK1.out; rw [HNN.out] at this; exact this) hk
          have HAl : Hid (A.length = n) := hide HPn.out.1
          clear HP HPn HB HRO3
          go_wp2_with fail
          go_loopw [9] (fun x ws => ∃ i : Nat, i ≤ n ∧ x = .int .i64 i ∧ Hid (Fx w3.heap.size 3 (ints A) ws) ∧ Hid (Below w.heap.size w ws)) (fun x _ => n - (intOf x).toNat)
          case atStart => exact ⟨0, by omega, rfl, HF, HW⟩
          case round =>
            clear HF HW
            obtain ⟨i, hi, rfl, HF, HW⟩ := hrel
            by_cases hlt : i < n
            · obtain ⟨r, hr⟩ := get_at (l := next) (i := i) (by rw [HNN.out]; exact hlt)
              obtain ⟨g1, o1, a2, c2, rfl, hg1, hc0, hrc, _, hI⟩ := at_L HL.out hr
              have HR := hide hr
              have HI := hide hI
              have HC0 := hide hc0
              have hrl := HRL.out i r hr
              obtain ⟨m, hm⟩ : ∃ m, r.length = m := ⟨_, rfl⟩
              rw [hm] at HC0 hrc HI hrl
              have HMM := hide hm
              clear hr hI hm hc0
              go_upto_region 22 with fail
              go_wp2_with fail
              go_loopw [10] (fun x ws => ∃ k : Nat, k ≤ m ∧ x = .int .i64 k ∧ Hid (Fx w3.heap.size 3 (ints A) ws) ∧ Hid (Below w.heap.size w ws)) (fun x _ => m - (intOf x).toNat)
              case atStart => exact ⟨0, by omega, rfl, HF, HW⟩
              case round =>
                clear HF HW
                obtain ⟨k, hk, rfl, HF, HW⟩ := hrel
                have cn := (World.cell?_of_block (HW.out.block g1 hg1)).trans HC0.out
                by_cases hkt : k < m
                · obtain ⟨z, hz⟩ := get_at (l := r) (i := k) (by rw [HMM.out]; exact hkt)
                  obtain ⟨g2, o2, rfl, hg2, hcz0⟩ := at_I HI.out hz
                  have hcz := (World.cell?_of_block (HW.out.block g2 hg2)).trans hcz0
                  have HZ := hide hz
                  clear hz hcz0
                  rename World => wz
                  have hBz : w.heap.size ≤ wz.heap.size := HW.out.size
                  by_cases hz0 : 0 ≤ z
                  · by_cases hzn : z < n
                    · obtain ⟨o, rfl⟩ := Int.eq_ofNat_of_zero_le hz0
                      have hon : o < n := by omega
                      obtain ⟨p1, p2⟩ := HAt.out o hon
                      obtain ⟨q1, q2⟩ := HAt.out i hlt
                      have hed : Ed next i o := ⟨by rw [HNN.out]; exact hon, by rw [List.getD_eq_getElem?_getD, HR.out]; exact List.mem_of_getElem? HZ.out⟩
                      have hbf := kahn_before HK1.out q2 p2 hed
                      have co := HF.out.get (ints_at (l := A) (i := o) (by rw [HAl.out]; exact hon))
                      have ci := HF.out.get (ints_at (l := A) (i := i) (by rw [HAl.out]; exact hlt))
                      rw [p1] at co
                      rw [q1] at ci
                      generalize out.idxOf o = x1 at *
                      generalize out.idxOf i = x2 at *
                      have hd0 : decide (0 ≤ (o : Int)) = true := decide_eq_true hz0
                      have hd1 : decide ((o : Int) < n) = true := decide_eq_true hzn
                      have hd2 : decide (((x1 + 1 : Nat) : Int) ≤ ((x2 + 1 : Nat) : Int)) = false := decide_eq_false (by omega)
                      have hd3 : decide ((x1 : Int) + 1 ≤ (x2 : Int) + 1) = false := decide_eq_false (by omega)
                      clear p1 p2 q1 q2 hed
                      go_upto_region 25 with fail
                      go_quiet (fail)
                      have HF2 : Hid (Fx w3.heap.size 3 (ints A) (wz.drewN nq)) := hide (HF.out.keep rfl)
                      have HW2 := hide (HW.out.trans ((below_drewN wz nq).mono hBz))
                      clear cn hcz co ci HF HW
                      generalize wz.drewN nq = wy at *
                      go_wp2_with fail
                      go_roundw
                      case rel => exact ⟨k + 1, by omega, by go_num, HF2, HW2⟩
                      case measure => simp [intOf]; omega
                    · have hd0 : decide (0 ≤ z) = true := decide_eq_true hz0
                      have hd1 : decide (z < n) = false := decide_eq_false hzn
                      go_upto_region 25 with fail
                      go_quiet (fail)
                      have HF2 : Hid (Fx w3.heap.size 3 (ints A) (wz.drewN nq)) := hide (HF.out.keep rfl)
                      have HW2 := hide (HW.out.trans ((below_drewN wz nq).mono hBz))
                      clear cn hcz HF HW
                      generalize wz.drewN nq = wy at *
                      go_wp2_with fail
                      go_roundw
                      case rel => exact ⟨k + 1, by omega, by go_num, HF2, HW2⟩
                      case measure => simp [intOf]; omega
                  · have hd0 : decide (0 ≤ z) = false := decide_eq_false hz0
                    go_upto_region 25 with fail
                    go_quiet (fail)
                    have HF2 : Hid (Fx w3.heap.size 3 (ints A) (wz.drewN nq)) := hide (HF.out.keep rfl)
                    have HW2 := hide (HW.out.trans ((below_drewN wz nq).mono hBz))
                    clear cn hcz HF HW
                    generalize wz.drewN nq = wy at *
                    go_wp2_with fail
                    go_roundw
                    case rel => exact ⟨k + 1, by omega, by go_num, HF2, HW2⟩
                    case measure => simp [intOf]; omega
                · go_wp2_with fail
                  go_roundw
                  case rel => exact ⟨i + 1, by omega, by go_num, HF, HW⟩
                  case measure => simp [intOf]; omega
            · go_wp2_with fail
              go_ret
              exact ⟨rfl, HW.out⟩
end Go.Proofs.Ytjaffhajehcnpaa
