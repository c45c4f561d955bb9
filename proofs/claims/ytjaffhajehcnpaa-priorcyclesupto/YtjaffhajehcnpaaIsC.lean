/- The page's IsCycle; SameIntLists; Beats. -/
import Derived.Test.YtjaffhajehcnpaaRfO
namespace Go.Proofs.Ytjaffhajehcnpaa
open Go.RowKit

theorem zn_at {l : List Nat} {i k : Nat} (h : l[i]? = some k) : (zn l)[i]? = some (k : Int) := by unfold zn; rw [List.getElem?_map, h]; rfl
set_option maxRecDepth 100000 in
set_option maxHeartbeats 6400000 in
theorem isCycle_any {N : Nat} {w : World} {next : List (List Int)} {a : Option Addr} {n c : Nat} (h : Lists N w next (.slice a n c)) (hnn : next.length = n) (hn : n ≤ 1048576) (hN : N ≤ w.heap.size) {l : List Nat} (hc : IsCyc next l) {la : Option Addr} {lc : Nat} (hl : At1 w la (ints (zn l))) :
    Calls Try.prog 12 #[.slice a n c, .slice la l.length lc] w fun e w' => e = .returned (.bool true) ∧ Below w.heap.size w w' := by
  have HL := hide h
  have HA := hide hl
  have HC := hide hc
  have HNN := hide hnn
  have hml : l.length ≤ n := by have := nodup_le hc.nd hc.lt; omega
  have hmp : 0 < l.length := by have := hc.ne; cases l with | nil => exact absurd rfl this | cons _ _ => simp
  obtain ⟨m, hm⟩ : ∃ m, l.length = m := ⟨_, rfl⟩
  have HMM := hide hm
  rw [hm] at hml hmp ⊢
  have hbm : ((m : Int) == 0) = false := beq_eq_false_iff_ne.2 (by omega)
  clear h hl hc hnn hm
  go_enter Try.func12, Try.ntmps12
  go_wp2_with fail
  go_loopw [5] (fun x wr => ∃ i : Nat, i ≤ m ∧ x = .int .i64 i ∧ Hid (Below w.heap.size w wr)) (fun x _ => m - (intOf x).toNat)
  case atStart => exact ⟨0, by omega, rfl, hide (Below.refl _ _)⟩
  case round =>
    obtain ⟨i, hi, rfl, HB⟩ := hrel
    by_cases hlt : i < m
    · obtain ⟨p, hp⟩ := get_at (l := l) (i := i) (by rw [HMM.out]; exact hlt)
      have hpn : p < n := by have := HC.out.lt p (List.mem_of_getElem? hp); rw [HNN.out] at this; exact this
      obtain ⟨g, o, rfl, cp⟩ := (HA.out.below HB.out).get (zn_at hp)
      have HP := hide hp
      clear hp
      go_upto_region 9 with fail
      clear cp
      go_wp2_with fail
      go_loopw [6] (fun x ws => ∃ k : Nat, k ≤ i ∧ x = .int .i64 k ∧ Hid (Below w.heap.size w ws)) (fun x _ => i - (intOf x).toNat)
      case atStart => exact ⟨0, by omega, rfl, HB⟩
      case round =>
        clear HB
        obtain ⟨k, hk, rfl, HB⟩ := hrel
        by_cases hkt : k < i
        · obtain ⟨q, hq⟩ := get_at (l := l) (i := k) (by rw [HMM.out]; omega)
          obtain ⟨g1, o1, e1, cq⟩ := (HA.out.below HB.out).get (zn_at hq)
          obtain ⟨g2, o2, e2, cp⟩ := (HA.out.below HB.out).get (zn_at HP.out)
          cases e1
          cases e2
          have hne : ((q : Int) == (p : Int)) = false := beq_eq_false_iff_ne.2 fun e => by
            have e' : q = p := by omega
            subst e'
            have := nd_inj HC.out.nd hq HP.out
            omega
          have hBr : w.heap.size ≤ wr.heap.size := HB.out.size
          clear hq
          go_upto_region 11 with fail
          go_quiet (fail)
          have HB2 := hide (HB.out.trans ((below_drewN wr nq).mono hBr))
          clear cq cp
          generalize wr.drewN nq = wy at *
          go_wp2_with fail
          go_roundw
          case rel => exact ⟨k + 1, by omega, by go_num, HB2⟩
          case measure => simp [intOf]; omega
        · go_wp2_with fail
          go_roundw
          case rel => exact ⟨i + 1, by omega, by go_num, HB⟩
          case measure => simp [intOf]; omega
    · go_wp2_with fail
      go_loopw [7] (fun x ws => ∃ i : Nat, i ≤ m ∧ x = .int .i64 i ∧ Hid (Below w.heap.size w ws)) (fun x _ => m - (intOf x).toNat)
      case atStart => exact ⟨0, by omega, rfl, HB⟩
      case round =>
        clear HB
        obtain ⟨i, hi, rfl, HB⟩ := hrel
        by_cases hit : i < m
        · obtain ⟨j, hj⟩ : ∃ j, (i + 1) % m = j := ⟨_, rfl⟩
          have hjm : j < m := by rw [← hj]; exact Nat.mod_lt _ hmp
          obtain ⟨p, hp⟩ := get_at (l := l) (i := i) (by rw [HMM.out]; exact hit)
          obtain ⟨q, hq⟩ := get_at (l := l) (i := j) (by rw [HMM.out]; exact hjm)
          have hpn : p < n := by have := HC.out.lt p (List.mem_of_getElem? hp); rw [HNN.out] at this; exact this
          have hed : edB next p (q : Int) = true := by
            have := HC.out.ed i p q hp (by rw [HMM.out, hj]; exact hq)
            unfold edB
            exact decide_eq_true this.2
          obtain ⟨g1, o1, rfl, cp⟩ := (HA.out.below HB.out).get (zn_at hp)
          obtain ⟨g2, o2, e2, cq⟩ := (HA.out.below HB.out).get (zn_at hq)
          cases e2
          have hBr : w.heap.size ≤ wr.heap.size := HB.out.size
          have hr1 : ((i : Int) + 1) % (m : Int) = (j : Int) := by rw [← hj]; simp
          have hr2 : ((i : Int) + 1).tmod (m : Int) = (j : Int) := by rw [Int.tmod_eq_emod_of_nonneg (by omega)]; exact hr1
          have hm0 : ¬ (m : Int) = 0 := by omega
          have CE : Hid (∀ w1, Below w.heap.size w w1 → N ≤ w.heap.size → Calls Try.prog 19 #[.slice a n c, .int .i64 p, .int .i64 q] w1 fun e w' => e = .returned (.bool true) ∧ w' = w1) := hide fun w1 hb hN => by
            have := edge_any (HL.out.keep fun g hg => hb.block g (by omega)) hpn HNN.out (q : Int)
            rw [hed] at this
            exact this
          clear hp hq hed hj
          go_upto_region 16 with fail
          go_quiet ((go_at_call 19; exact Calls.quiet_of_same (CE.out _ (HB.out.trans ((below_drewN wr _).mono hBr)) hN)))
          have HB2 := hide (HB.out.trans ((below_drewN wr nq).mono hBr))
          clear cp cq CE
          generalize wr.drewN nq = wy at *
          go_wp2_with fail
          go_roundw
          case rel => exact ⟨i + 1, by omega, by go_num, HB2⟩
          case measure => simp [intOf]; omega
        · go_wp2_with fail
          go_ret
          exact ⟨rfl, HB.out⟩
end Go.Proofs.Ytjaffhajehcnpaa
