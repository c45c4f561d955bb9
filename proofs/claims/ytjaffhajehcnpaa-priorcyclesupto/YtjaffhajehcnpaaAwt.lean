/- awaits. -/
import Derived.Test.YtjaffhajehcnpaaHpp
namespace Go.Proofs.Ytjaffhajehcnpaa
open Go.RowKit

def AwI (next : List (List Int)) (i : Nat) (r : List Int) (T : List Int) : Prop := T.length = next.length ∧ ∀ k, k < next.length → T.getD k 0 = ((((next.take i).map fun l => l.count (k : Int)).sum + r.count (k : Int) : Nat) : Int)
section
variable {next : List (List Int)} {i : Nat} {r T : List Int} {z : Int}
theorem AwI.start : AwI next 0 [] (List.replicate next.length 0) := ⟨by simp, fun k hk => by simp [List.getD, hk]⟩
theorem AwI.skip (h : AwI next i r T) (hz : inN z next.length = false) : AwI next i (r ++ [z]) T := by
  refine ⟨h.1, fun k hk => ?_⟩
  have hne : z ≠ (k : Int) := fun e => by
    have : inN z next.length = true := inN_iff.2 (by omega)
    rw [hz] at this; cases this
  rw [h.2 k hk, List.count_append, List.count_singleton]
  simp [hne]
theorem AwI.more (h : AwI next i r T) {n : Nat} (hn : n < next.length) : AwI next i (r ++ [(n : Int)]) (T.set n (T.getD n 0 + 1)) := by
  refine ⟨by rw [List.length_set]; exact h.1, fun k hk => ?_⟩
  rw [List.count_append, List.count_singleton]
  by_cases e : n = k
  · subst e
    have : (T.set n (T.getD n 0 + 1)).getD n 0 = T.getD n 0 + 1 := by simp [List.getD, show n < T.length by rw [h.1]; exact hn]
    rw [this, h.2 n hk]
    simp
    omega
  · have : (T.set n (T.getD n 0 + 1)).getD k 0 = T.getD k 0 := by simp [List.getD, List.getElem?_set_ne e]
    rw [this, h.2 k hk]
    have hne : ((n : Int) == (k : Int)) = false := by simp; omega
    simp [hne]
theorem AwI.row (h : AwI next i r T) (hr : next[i]? = some r) : AwI next (i + 1) [] T := by
  refine ⟨h.1, fun k hk => ?_⟩
  rw [h.2 k hk, take_snoc hr, List.map_append, List.sum_append]
  simp
theorem take_le : ((next.take i).map fun l => l.count z).sum ≤ total next := by
  have h1 : ((next.take i).map fun l => l.count z).sum ≤ ((next.take i).map List.length).sum := sum_le fun _ => List.count_le_length
  have h2 : ((next.take i).map List.length).sum + ((next.drop i).map List.length).sum = total next := by
    unfold total
    rw [← List.sum_append, ← List.map_append, List.take_append_drop]
  omega
theorem AwI.bound (h : AwI next i r T) {k : Nat} (hk : k < next.length) : 0 ≤ T.getD k 0 ∧ T.getD k 0 ≤ total next + r.length := by
  have h1 := take_le (next := next) (i := i) (z := (k : Int))
  have h2 := List.count_le_length (a := (k : Int)) (l := r)
  rw [h.2 k hk]
  omega
theorem AwI.cnt (h : AwI next next.length [] T) : T.length = next.length ∧ ∀ k, k < next.length → T.getD k 0 = ((cnt next [] k : Nat) : Int) := by
  refine ⟨h.1, fun k hk => ?_⟩
  rw [h.2 k hk, cnt_nil, List.take_length]
  simp
end
set_option maxRecDepth 100000 in
set_option maxHeartbeats 6400000 in
theorem awaits_any {N : Nat} {w : World} {next : List (List Int)} {a : Option Addr} {c : Nat} (h : Lists N w next (.slice a next.length c)) (hN : N ≤ w.heap.size) (hn : next.length ≤ 1048576) (ht : total next ≤ 1048576) :
    Calls Try.prog 23 #[.slice a next.length c] w fun e w' => e = .returned (.slice (some ⟨w.heap.size, 0, none⟩) next.length next.length) ∧ (∃ T, AwI next next.length [] T ∧ Fx w.heap.size 3 (ints T) w') ∧ Below w.heap.size w w' := by
  obtain ⟨iI, hiI, zI0, zI1, zI2⟩ := info_parts infoI
  have HL := hide h
  have HRL : Hid (∀ (i : Nat) (l : List Int), next[i]? = some l → l.length ≤ 1048576) := hide fun i l hi => Nat.le_trans (row_le hi) ht
  obtain ⟨n, hnn⟩ : ∃ n, next.length = n := ⟨_, rfl⟩
  have HNN := hide hnn
  rw [hnn] at hn ⊢
  clear h hnn
  go_enter Try.func23, Try.ntmps23
  have HN0 : Hid ((n : Int) = (n : Int)) := hide rfl
  go_upto_region 2 with (at_make; go_must (refine wpList_make_fix _ rfl _ _ 27 rfl 3 iI _ Try.underlying27 hiI zI0 zI1 rfl _ _ n rfl rfl HN0.out HN0.out (by rw [zI2]; omega) (by unfold maxLen; omega) ?_))
  have HF0 : Hid (Fx w.heap.size 3 (ints (List.replicate n 0)) (w.alloc (.cells (Array.replicate n (.int .i64 0)) 3))) := hide (by rw [ints_rep]; exact heap_alloc_new w _)
  have HB0 := hide (below_new w (.cells (Array.replicate n (.int .i64 0)) 3))
  have HA0 : Hid (AwI next 0 [] (List.replicate n 0)) := hide (by rw [← HNN.out]; exact AwI.start)
  generalize w.alloc (.cells (Array.replicate n (.int .i64 0)) 3) = w0 at *
  go_wp2_with fail
  go_loopw [13] (fun x wr => ∃ (i : Nat) (T : List Int), i ≤ n ∧ x = .int .i64 i ∧ Hid (AwI next i [] T) ∧ Hid (Fx w.heap.size 3 (ints T) wr) ∧ Hid (Below w.heap.size w wr)) (fun x _ => n - (intOf x).toNat)
  case atStart => exact ⟨0, _, by omega, rfl, HA0, HF0, HB0⟩
  case round =>
    clear HA0 HF0 HB0
    obtain ⟨i, T, hi, rfl, HA, HF, HB⟩ := hrel
    by_cases hlt : i < n
    · obtain ⟨r, hr⟩ := get_at (l := next) (i := i) (by rw [HNN.out]; exact hlt)
      obtain ⟨g1, o1, a2, c2, rfl, hg1, hc0, hrc, _, hI⟩ := at_L HL.out hr
      have hc1 : wr.cell? ⟨g1, o1 + i, none⟩ = some (.slice a2 r.length c2) := (World.cell?_of_block (HB.out.block g1 (by omega))).trans hc0
      have HR := hide hr
      have HI := hide hI
      have hrl := HRL.out i r hr
      obtain ⟨m, hm⟩ : ∃ m, r.length = m := ⟨_, rfl⟩
      rw [hm] at hc1 hrc HI hrl
      have HMM := hide hm
      clear hr hI hm hc0
      go_upto_region 6 with fail
      go_wp2_with fail
      go_loopw [19] (fun x ws => ∃ (j : Nat) (T : List Int), j ≤ m ∧ x = .int .i64 j ∧ Hid (AwI next i (r.take j) T) ∧ Hid (Fx w.heap.size 3 (ints T) ws) ∧ Hid (Below w.heap.size w ws)) (fun x _ => m - (intOf x).toNat)
      case atStart => exact ⟨0, T, by omega, rfl, HA, HF, HB⟩
      case round =>
        clear HA HF HB hc1 T
        obtain ⟨j, T, hj, rfl, HA, HF, HB⟩ := hrel
        by_cases hjt : j < m
        · obtain ⟨z, hz⟩ := get_at (l := r) (i := j) (by rw [HMM.out]; exact hjt)
          obtain ⟨g2, o2, rfl, hg2, hcz0⟩ := at_I HI.out hz
          have hcz : wr.cell? ⟨g2, o2 + j, none⟩ = some (.int .i64 z) := (World.cell?_of_block (HB.out.block g2 (by omega))).trans hcz0
          have HT := hide (take_snoc hz)
          clear hz hcz0
          cases hin : inN z n with
          | true =>
            have hzz := inN_iff.1 hin
            obtain ⟨k, rfl⟩ := Int.eq_ofNat_of_zero_le hzz.1
            have hkn : k < n := by omega
            have hbd := HA.out.bound (k := k) (by rw [HNN.out]; exact hkn)
            have hrj : (r.take j).length ≤ 1048576 := by rw [List.length_take, HMM.out]; omega
            have kc := HF.out.get (ints_at (l := T) (i := k) (by rw [HA.out.1, HNN.out]; exact hkn))
            have kf := HF.out.frz k
            have HA2 : Hid (AwI next i (r.take (j + 1)) (T.set k (T.getD k 0 + 1))) := hide (by rw [HT.out]; exact HA.out.more (by rw [HNN.out]; exact hkn))
            have HF2 : Hid (Fx w.heap.size 3 (ints (T.set k (T.getD k 0 + 1))) (wr.setCell ⟨w.heap.size, k, none⟩ (.int .i64 (T.getD k 0 + 1)))) := hide (by rw [← ints_set]; exact HF.out.set k _)
            have HB2 := hide (HB.out.setCell (p := ⟨w.heap.size, k, none⟩) (Nat.le_refl _) (.int .i64 (T.getD k 0 + 1)))
            have hb2 : 0 ≤ T.getD k 0 ∧ T.getD k 0 ≤ 2097152 := by omega
            generalize hgt : T.getD k 0 = t at *
            clear HA HF HB hzz hbd hgt HT
            go_wp2_with (go_at_call 20; refine (within_any _ _ _).mono ?_; rw [hin]; rintro e w2 ⟨rfl, hw2⟩; subst w2)
            go_roundw
            case rel => exact ⟨j + 1, _, by omega, by go_num, HA2, HF2, HB2⟩
            case measure => simp [intOf]; omega
          | false =>
            have HA2 : Hid (AwI next i (r.take (j + 1)) T) := hide (by rw [HT.out]; exact HA.out.skip (by rw [HNN.out]; exact hin))
            clear HA HT
            go_wp2_with (go_at_call 20; refine (within_any _ _ _).mono ?_; rw [hin]; rintro e w2 ⟨rfl, hw2⟩; subst w2)
            go_roundw
            case rel => exact ⟨j + 1, T, by omega, by go_num, HA2, HF, HB⟩
            case measure => simp [intOf]; omega
        · have HA2 : Hid (AwI next (i + 1) [] T) := hide (by
            have := HA.out
            rw [List.take_of_length_le (by rw [HMM.out]; omega)] at this
            exact this.row HR.out)
          clear HA
          go_wp2_with fail
          go_roundw
          case rel => exact ⟨i + 1, T, by omega, by go_num, HA2, HF, HB⟩
          case measure => simp [intOf]; omega
    · have HA2 : Hid (AwI next n [] T) := hide (by have := HA.out; rw [show i = n by omega] at this; exact this)
      clear HA
      go_wp2_with fail
      go_ret
      exact ⟨rfl, ⟨T, HA2.out, HF.out⟩, HB.out⟩
end Go.Proofs.Ytjaffhajehcnpaa
