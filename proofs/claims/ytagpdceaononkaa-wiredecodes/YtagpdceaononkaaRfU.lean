/- The document's Uint. -/
import Derived.Test.YtagpdceaononkaaWPut
namespace Go.Proofs.Ytagpdceaononkaa
open Go.RowKit

set_option maxHeartbeats 400000 in
theorem rUintF_any : ∀ (f : Nat) (n : Int) (w : World), f ≤ 9 → 0 ≤ n → n ≤ 18446744073709551615 → n < 128 ^ (f + 1) →
    Calls Try.prog 23 #[.int .u64 n] w fun e w' => ∃ a cap, e = .returned (.slice a (uintB f n).length cap) ∧ w'.ownsRow w.heap.size 5 1 (.slice a (uintB f n).length cap) (uintB f n).length ((uintB f n).map (Value.int .u8)) ∧ Below w.heap.size w w' := by
  intro f
  obtain ⟨i0, hi, hz0, hz1, hz2⟩ := info_parts infoB
  induction f with
  | zero =>
    intro n w hf h0 h64 h1
    have h128 : n < 128 := by simpa using h1
    clear h1
    go_enter Try.func23, Try.ntmps23
    go_wp2_with fail
    go_ret
    exact ⟨_, _, rfl, World.ownsRow_lit w #[.int .u8 n] 1 (Nat.le_refl _) (by unfold maxLen; omega) rfl, (Below.refl _ _).alloc (Nat.le_refl _) _⟩
  | succ f ih =>
    intro n w hf h0 h64 h1
    by_cases h128 : n < 128
    · clear h1
      have HE : Hid (uintB (f + 1) n = [n]) := by unfold Hid; rw [uintB, if_pos h128]
      go_enter Try.func23, Try.ntmps23
      go_wp2_with fail
      go_ret
      rw [HE.out]
      exact ⟨_, _, rfl, World.ownsRow_lit w #[.int .u8 n] 1 (Nat.le_refl _) (by unfold maxLen; omega) rfl, (Below.refl _ _).alloc (Nat.le_refl _) _⟩
    · have HE : Hid (uintB (f + 1) n = (n % 128 + 128) :: uintB f (n / 128)) := by unfold Hid; rw [uintB, if_neg h128]
      have HB : Hid (n / 128 < 128 ^ (f + 1)) := by
        rw [Int.pow_succ] at h1
        exact Int.ediv_lt_of_lt_mul (by decide) h1
      have IH := hide ih
      clear h1 ih
      go_enter Try.func23, Try.ntmps23
      go_wp2_with fail
      refine (IH.out (n / 128) _ (by omega) (by omega) (by omega) HB.out).mono ?_
      rintro e w2 ⟨a2, cap2, rfl, hown2, hbel2⟩
      obtain ⟨g, ha, hg1, hg2, hnews⟩ := own_news hown2 (uintB_pos _ _)
      subst ha
      have hown1 : w2.ownsRow w.heap.size 5 1 (.slice (some ⟨w.heap.size, 0, none⟩) 1 1) 1 [.int .u8 (bits .or .u8 (n % 128) 128)] :=
        own_below (World.ownsRow_lit w #[.int .u8 (bits .or .u8 (n % 128) 128)] 1 (Nat.le_refl _) (by unfold maxLen; omega) rfl) hbel2 (Nat.le_refl _)
      have hbel1 : Below w.heap.size w w2 := ((Below.refl _ _).alloc (Nat.le_refl _) _).trans (hbel2.mono (by simp))
      have HNW := hide hnews
      have HLN := hide (uintB_len f (n / 128))
      clear hnews hbel2 hown2 IH HB
      generalize hU : uintB f (n / 128) = us at *
      have HU := hide hU
      clear hU
      go_wp2_with (at_builtin; go_must (refine wpList_append_own _ rfl _ _ 29 rfl w.heap.size 5 i0 (.int .u8 0) 1 1 Try.underlying29 hi hz0 hz1 hz2 rfl (by decide) _ _ _ rfl hown1 ⟨g, 0, none⟩ us.length cap2 (us.map (Value.int .u8)) rfl (by simp) HNW.out (ints_oneCell _ _) (by have := HLN.out; unfold maxLen; omega) (by have := HLN.out; omega) hbel1.size ?_))
      intro v' w3 hown3 hgrow _
      obtain ⟨a3, cap3, hv⟩ := own_shape hown3
      subst hv
      have hbel3 : Below w.heap.size w w3 := hbel1.grown hgrow hbel1.size (fun k hk => by simp [Value.ownBlock] at hk; omega)
      clear hgrow
      go_wp2_with fail
      go_ret
      rw [HE.out]
      refine ⟨a3, cap3, ?_, ?_, hbel3⟩
      · simp [Nat.add_comm]
      · rw [or128 _ (by omega) (by omega)] at hown3
        simpa [Nat.add_comm] using hown3
theorem rUint_any (n : Int) (w : World) (h0 : 0 ≤ n) (h1 : n < 9223372036854775808) :
    Calls Try.prog 23 #[.int .u64 n] w fun e w' => ∃ a cap, e = .returned (.slice a (numB n).length cap) ∧ w'.ownsRow w.heap.size 5 1 (.slice a (numB n).length cap) (numB n).length (byts (numB n)) ∧ Below w.heap.size w w' := rUintF_any 9 n w (by omega) h0 (by omega) (by omega)
theorem told_of {B : Nat} {v v4 : Value} {w w1 w4 : World} {zs us A : List Int} (hA : zs ++ us = A) (hb : Below w.heap.size w w1) (hg : w1.grownBy w4 v.ownBlock) (hown : w4.ownsRow B 5 1 v4 (zs.length + us.length) (byts zs ++ byts us)) (hat : ∀ g, v4.ownBlock = some g → v.ownBlock = some g ∨ w1.heap.size ≤ g) :
    ∃ a c, v4 = .slice a A.length c ∧ w4.ownsRow B 5 1 (.slice a A.length c) A.length (byts A) ∧ Fr (fun k => v.ownBlock = some k) w w4 ∧ ∀ g, Value.ownBlock (.slice a A.length c) = some g → v.ownBlock = some g ∨ w.heap.size ≤ g := by
  subst hA
  rw [← byts_app, ← List.length_append] at hown
  obtain ⟨a, c, rfl⟩ := owns_slice hown
  exact ⟨a, c, rfl, hown, grown_row_fr hb hg, fun g e => (hat g e).imp id (Nat.le_trans hb.size)⟩
end Go.Proofs.Ytagpdceaononkaa
