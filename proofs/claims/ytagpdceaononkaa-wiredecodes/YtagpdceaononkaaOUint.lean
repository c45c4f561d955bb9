/- octets.Uint answers, in memory of its own, the bytes that uintB says. -/
import Derived.Test.YtagpdceaononkaaOBase
import Derived.Test.YtagpdceaononkaaOPlain
namespace Go.Proofs.Ytagpdceaononkaa
open Go.RowKit

set_option maxHeartbeats 400000 in
theorem uint_any (n : Int) (w : World) (h0 : 0 ≤ n) (h1 : n < 18446744073709551616) :
    Calls Try.prog 44 #[.int .u64 n] w fun e w' => ∃ v, e = .returned v ∧ w'.ownsRow w.heap.size 5 1 v (uintB 9 n).length ((uintB 9 n).map (Value.int .u8)) ∧ Below w.heap.size w w' := by
  obtain ⟨i0, hi, hz0, hz1, hz2⟩ := info_parts infoB
  go_enter Try.func44, Try.ntmps44
  go_wp2_with (at_make; go_must (refine wpList_make_own _ rfl _ _ 29 rfl w.heap.size 5 i0 (.int .u8 0) 1 Try.underlying29 hi hz0 hz1 .i64 .i64 10 10 rfl rfl rfl (by omega) (by unfold maxLen; omega) (Nat.le_refl _) ?_; intro w1 hown hgrow))
  go_loopw [0, 3] (fun x v wr => ∃ (k : Nat) (m : Int) (pre : List Int), k ≤ 9 ∧ 0 ≤ m ∧ m ≤ 18446744073709551615 ∧ Hid (m < 128 ^ (10 - k)) ∧ Hid (pre.length = k) ∧ x = .int .u64 m ∧ v = .slice (some ⟨w.heap.size, 0, none⟩) k 10 ∧ wr.ownsRow w.heap.size 5 1 (.slice (some ⟨w.heap.size, 0, none⟩) k 10) k (pre.map (Value.int .u8)) ∧ Below w.heap.size w wr ∧ Hid (uintB 9 n = pre ++ uintB (9 - k) m))
    (fun x _ _ => (intOf x).toNat)
  case atStart => exact ⟨0, n, [], by omega, h0, by omega, by unfold Hid; omega, rfl, rfl, rfl, hown, (Below.refl _ _).grown hgrow (Nat.le_refl _) (by simp), rfl⟩
  case round =>
    clear hown hgrow
    obtain ⟨k, m, pre, hk, hm0, hm1, HM, HP, rfl, rfl, hown, hbel, HE⟩ := hrel
    by_cases hm : 128 ≤ m
    · obtain ⟨hk9, hq⟩ := fuel_more hk HM.out hm
      have HQ := hide hq
      have HN := hide (uintB_more (f := 9 - (k + 1)) (by have := HE.out; rwa [show 9 - k = 9 - (k + 1) + 1 by omega] at this) hm)
      clear hq HE
      go_wp2_with (at_builtin; go_must (refine wpList_append_fits _ rfl _ _ 29 rfl w.heap.size 5 i0 1 Try.underlying29 hi hz1 w.heap.size k 10 _ rfl (hown.alloc _) ⟨wr.heap.size, 0, none⟩ 1 1 [.int .u8 (bits .or .u8 (IntKind.u8.wrap m) 128)] rfl rfl (cell_one_new _ _ _) (one_cell _) (by omega) ?_))
      intro w2 hown' hgrow
      have hbel2 : Below w.heap.size w w2 := (hbel.alloc hbel.size _).grown hgrow (by have := hbel.size; simp; omega) (fun k hk => by simp at hk; omega)
      clear hgrow hown
      go_wp2
      go_roundw
      case rel => exact ⟨k + 1, m / 128, pre ++ [m % 128 + 128], by omega, by omega, by omega, HQ, by simp [Hid, HP.out], rfl, rfl, by rw [or_byte] at hown'; simpa using hown', hbel2, HN⟩
      case measure => simp [intOf]; omega
    · have HN := hide (uintB_last HE.out (by omega))
      clear HE
      go_wp2_with (at_builtin; go_must (refine wpList_append_fits _ rfl _ _ 29 rfl w.heap.size 5 i0 1 Try.underlying29 hi hz1 w.heap.size k 10 _ rfl (hown.alloc _) ⟨wr.heap.size, 0, none⟩ 1 1 [.int .u8 m] rfl rfl (cell_one_new _ _ _) (one_cell _) (by omega) ?_))
      intro w2 hown' hgrow
      have hbel2 : Below w.heap.size w w2 := (hbel.alloc hbel.size _).grown hgrow (by have := hbel.size; simp; omega) (fun k hk => by simp at hk; omega)
      clear hgrow hown
      go_wp2
      go_ret
      exact ⟨_, rfl, by rw [HN.out]; simpa [HP.out] using hown', hbel2⟩

end Go.Proofs.Ytagpdceaononkaa
