/- slices.swapRangeCmpFunc and rotateCmpFunc on places: what they leave. -/
import Derived.Test.YthpbadnedhjncaaDoorSortIns
import Derived.Sort.WalkB2
import Derived.Sort.WalkB12
import Derived.Deep.LoopGhost
namespace Go.Proofs.YthpbadnedhjncaaDoor
open Go.RowKit Go.Shelf Go.Lib Go.Sort

set_option maxHeartbeats 4000000 in
set_option maxRecDepth 1000000 in
theorem swapRange_s {k : Nat} (g : Nat) (cb : Array Value) (blk cap a b n : Nat) (d0 d : Array (Fin (k + 1))) (w0 w : World)
    (R : Row1 encP w0 blk 0 d0) (hs : d0.size = d.size) (S : SW encP w0 blk 0 d w) (hab : a + n ≤ b) (hb : b + n ≤ d.size) (hsz : d.size ≤ 4096) :
    Calls Tryd.prog 90 #[.slice (some ⟨blk, 0, none⟩) d.size cap, .int .i64 a, .int .i64 b, .int .i64 n, .func (.func g) #[] cb] w fun e w' => e = .returned (.tuple #[]) ∧ ∃ d' : Array (Fin (k + 1)), d'.size = d.size ∧ fa d' = swr (fa d) a b n ∧ SW encP w0 blk 0 d' w' := by
  have mixed : Tryd.prog.follows .mixedOrders = true := by kernel_rfl
  have hcl0 := R.hO.cells
  simp only [Value.cells] at hcl0
  have hst := R.hO.store Tryd.prog
  have S0 : Aside (SW encP w0 blk 0 d w) := S
  clear S
  go_enter Tryd.func90, Tryd.ntmps90
  go_wp2
  go_loopg [10] n (fun g1 vi wr => ∃ (i : Nat) (dk : Array (Fin (k + 1))), vi = .int .i64 i ∧ i ≤ n ∧ n - i ≤ g1 ∧ dk.size = d.size ∧ Aside (SW encP w0 blk 0 dk wr) ∧ Hid (fa dk = swr (fa d) a b i))
  case atStart => exact ⟨0, d, rfl, by omega, by omega, rfl, S0, (swr_zero _ _ _).symm⟩
  case round =>
    clear S0
    obtain ⟨i, dk, rfl, hin, hg1, hds, S1, HE⟩ := hrel
    by_cases hlt : i < n
    · have hltz : (i : Int) < (n : Int) := by omega
      go_wp2_with fail
      obtain ⟨iN, hiN⟩ : ∃ q, q = a + i := ⟨_, rfl⟩
      obtain ⟨jN, hjN⟩ : ∃ q, q = b + i := ⟨_, rfl⟩
      have ea : ((a : Int) + (i : Int)).toNat = iN := by omega
      have pa : (0 : Int) ≤ (a : Int) + (i : Int) := by omega
      have ba : (a : Int) + (i : Int) < (d.size : Int) := by omega
      have ra : IntKind.i64.wrap ((a : Int) + (i : Int)) = (a : Int) + (i : Int) := by rw [IntKind.wrap_i64]; omega
      have ec : ((b : Int) + (i : Int)).toNat = jN := by omega
      have pc : (0 : Int) ≤ (b : Int) + (i : Int) := by omega
      have bc : (b : Int) + (i : Int) < (d.size : Int) := by omega
      have rc : IntKind.i64.wrap ((b : Int) + (i : Int)) = (b : Int) + (i : Int) := by rw [IntKind.wrap_i64]; omega
      obtain ⟨x, hx⟩ : ∃ x, x = dk[a + i]! := ⟨_, rfl⟩
      obtain ⟨y, hy⟩ : ∃ x, x = dk[b + i]! := ⟨_, rfl⟩
      have S2 : Aside (SW encP w0 blk 0 (Go.Sort.swp dk (a + i) (b + i)) ((wr.setCell ⟨blk, 0 + iN, none⟩ (encP y)).setCell ⟨blk, 0 + jN, none⟩ (encP x)).drew) := by rw [hiN, hjN, hx, hy]; exact S1.out.swapped R (a + i) (b + i) (by omega) (by omega)
      have ca := S1.out.c1 R (by omega) (a + i) (by omega)
      have cbb := S1.out.c1 R (by omega) (b + i) (by omega)
      have faa := S1.out.f1 R (by omega) (a + i) (by omega)
      have fbb := S1.out.f1 R (by omega) (b + i) (by omega)
      obtain ⟨u, cc⟩ := S1.out.c2 R (by omega) (a + i) (b + i) (by omega) (by omega) (encP y)
      rw [← hjN, ← hiN] at cc
      rw [← hx, ← hiN] at ca
      rw [← hy, ← hjN] at cbb
      rw [← hiN] at faa
      rw [← hjN] at fbb
      rw [Nat.zero_add] at ca cbb faa fbb
      rw [Nat.zero_add, Nat.zero_add] at cc
      rw [Nat.zero_add, Nat.zero_add] at S2
      have HF : Hid (fa (Go.Sort.swp dk (a + i) (b + i)) = swr (fa d) a b (i + 1)) := by
        unfold Hid; rw [fa_swp dk _ _ (by omega) (by omega), HE.out, swr_succ _ _ _ _ (by omega)]
      clear S1 hx hy hiN hjN
      go_big_region_o
      clear ca cbb cc faa fbb
      generalize ((wr.setCell ⟨blk, iN, none⟩ (encP y)).setCell ⟨blk, jN, none⟩ (encP x)).drew = w2 at S2 ⊢
      clear ea ec
      go_wp2
      go_roundg (n - (i + 1))
      case measure => omega
      case rel => exact ⟨i + 1, Go.Sort.swp dk (a + i) (b + i), by go_num, by omega, Nat.le_refl _, by rw [size_swp']; exact hds, S2, HF⟩
    · have hltz : ¬ (i : Int) < (n : Int) := by omega
      have hie : i = n := by omega
      subst hie
      go_wp2
      go_end0
      exact ⟨rfl, dk, hds, HE.out, S1.out⟩

set_option maxHeartbeats 4000000 in
set_option maxRecDepth 1000000 in
theorem rotate_s {k : Nat} (g : Nat) (cb : Array Value) (blk cap a m b : Nat) (d0 d : Array (Fin (k + 1))) (w0 w : World)
    (R : Row1 encP w0 blk 0 d0) (hs : d0.size = d.size) (S : SW encP w0 blk 0 d w) (ham : a < m) (hmb : m < b) (hb : b ≤ d.size) (hsz : d.size ≤ 4096) :
    Calls Tryd.prog 89 #[.slice (some ⟨blk, 0, none⟩) d.size cap, .int .i64 a, .int .i64 m, .int .i64 b, .func (.func g) #[] cb] w fun e w' => e = .returned (.tuple #[]) ∧ ∃ d' : Array (Fin (k + 1)), d'.size = d.size ∧ fa d' = rot (fa d) a m b ∧ SW encP w0 blk 0 d' w' := by
  have CS : Aside (∀ (x y n : Nat) (dk : Array (Fin (k + 1))) (W : World), dk.size = d.size → SW encP w0 blk 0 dk W → x + n ≤ y → y + n ≤ d.size → Calls Tryd.prog 90 #[.slice (some ⟨blk, 0, none⟩) d.size cap, .int .i64 (x : Int), .int .i64 (y : Int), .int .i64 (n : Int), .func (.func g) #[] cb] W fun e w' => e = .returned (.tuple #[]) ∧ ∃ d' : Array (Fin (k + 1)), d'.size = d.size ∧ fa d' = swr (fa dk) x y n ∧ SW encP w0 blk 0 d' w') := by
    intro x y n dk W hdk SW1 h1 h2
    have := swapRange_s g cb blk cap x y n d0 dk w0 W R (by omega) SW1 h1 (by omega) (by omega)
    rw [hdk] at this
    exact this
  have S0 : Aside (SW encP w0 blk 0 d w) := S
  clear S
  go_enter Tryd.func89, Tryd.ntmps89
  go_wp2
  go_loopg [10, 11] (b - a) (fun kx vi vj wr => ∃ (i j : Nat) (dk : Array (Fin (k + 1))), vi = .int .i64 (i : Int) ∧ vj = .int .i64 (j : Int) ∧ 1 ≤ i ∧ 1 ≤ j ∧ i ≤ m ∧ m + j ≤ d.size ∧ i + j ≤ kx ∧ dk.size = d.size ∧ Aside (SW encP w0 blk 0 dk wr) ∧ Hid (rot (fa dk) (m - i) m (m + j) = rot (fa d) a m b))
  case atStart => exact ⟨m - a, b - m, d, by congr 1; omega, by congr 1; omega, by omega, by omega, by omega, by omega, by omega, rfl, S0, by unfold Hid; rw [show m - (m - a) = a by omega, show m + (b - m) = b by omega]⟩
  case round =>
    clear S0
    obtain ⟨i, j, dk, rfl, rfl, hi1, hj1, him, hjs, hkx, hds, S1, HE⟩ := hrel
    rcases Nat.lt_trichotomy i j with h | h | h
    · have hne : ((i : Int) == (j : Int)) = false := by simp; omega
      have hgt : ¬ (j : Int) < (i : Int) := by omega
      have hc := CS.out (m - i) (m + j - i) i dk wr hds S1.out (by omega) (by omega)
      rw [show ((m - i : Nat) : Int) = (m : Int) - (i : Int) by omega, show ((m + j - i : Nat) : Int) = (m : Int) + (j : Int) - (i : Int) by omega] at hc
      have HC := hide hc
      clear hc S1
      go_wp2_with (go_at_call 90; refine HC.out.mono ?_; rintro _ w2 ⟨rfl, d', hd', hf', S2⟩)
      have HF : Hid (rot (fa d') (m - i) m (m + (j - i)) = rot (fa d) a m b) := by
        unfold Hid; rw [hf', ← HE.out]; exact (rot_less (fa dk) m i j him (by omega) h).symm
      have SS : Aside (SW encP w0 blk 0 d' w2) := S2
      clear S2 hf'
      go_roundg (i + (j - i))
      case measure => omega
      case rel => exact ⟨i, j - i, d', rfl, by congr 1; omega, hi1, by omega, him, by omega, Nat.le_refl _, hd', SS, HF⟩
    · subst h
      have hne : ((i : Int) == (i : Int)) = true := by simp
      have hc := CS.out (m - i) m i dk wr hds S1.out (by omega) (by omega)
      rw [show ((m - i : Nat) : Int) = (m : Int) - (i : Int) by omega] at hc
      have HC := hide hc
      clear hc S1
      go_wp2_with (go_at_call 90; refine HC.out.mono ?_; rintro _ w2 ⟨rfl, d', hd', hf', S2⟩)
      go_end0
      exact ⟨rfl, d', hd', by rw [hf', ← HE.out]; exact (rot_same (fa dk) m i him).symm, S2⟩
    · have hne : ((i : Int) == (j : Int)) = false := by simp; omega
      have hgt : (j : Int) < (i : Int) := by omega
      have hc := CS.out (m - i) m j dk wr hds S1.out (by omega) (by omega)
      rw [show ((m - i : Nat) : Int) = (m : Int) - (i : Int) by omega] at hc
      have HC := hide hc
      clear hc S1
      go_wp2_with (go_at_call 90; refine HC.out.mono ?_; rintro _ w2 ⟨rfl, d', hd', hf', S2⟩)
      have HF : Hid (rot (fa d') (m - (i - j)) m (m + j) = rot (fa d) a m b) := by
        unfold Hid; rw [hf', ← HE.out]; exact (rot_more (fa dk) m i j him (by omega) h).symm
      have SS : Aside (SW encP w0 blk 0 d' w2) := S2
      clear S2 hf'
      go_roundg ((i - j) + j)
      case measure => omega
      case rel => exact ⟨i - j, j, d', by congr 1; omega, rfl, by omega, hj1, by omega, hjs, Nat.le_refl _, hd', SS, HF⟩

end Go.Proofs.YthpbadnedhjncaaDoor
