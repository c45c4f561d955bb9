/- Uint, the program's and the document's: of any number both answer, in memory of their own, the bytes that uintB says. -/
import Derived.Test.YtkiigmfdfkflpaaBase
import Derived.Test.YtkiigmfdfkflpaaNums
namespace Go.Proofs.Ytkiigmfdfkflpaa
open Go.RowKit

/-- A number's bytes: seven bits a byte, the lowest first. -/
def uintB : Nat → Int → List Int
  | 0, n => [n]
  | f + 1, n => if n < 128 then [n] else (n % 128 + 128) :: uintB f (n / 128)

theorem wrap8 (m : Int) : IntKind.u8.wrap m = m % 256 := IntKind.wrap_u8' m

theorem or_byte (m : Int) : bits .or .u8 (IntKind.u8.wrap m) 128 = m % 128 + 128 := by
  rw [wrap8, or128 _ (by omega) (by omega)]
  omega

theorem uintB_more {f : Nat} {n m : Int} {fuel : Nat} {pre : List Int} (h : uintB fuel n = pre ++ uintB (f + 1) m) (hm : 128 ≤ m) :
    uintB fuel n = (pre ++ [m % 128 + 128]) ++ uintB f (m / 128) := by
  rw [h, uintB, if_neg (by omega)]; simp

theorem uintB_last {f : Nat} {n m : Int} {fuel : Nat} {pre : List Int} (h : uintB fuel n = pre ++ uintB f m) (hm : m < 128) :
    uintB fuel n = pre ++ [m] := by
  rw [h]; cases f with
  | zero => rw [uintB]
  | succ f => rw [uintB, if_pos hm]

theorem fuel_more {k : Nat} {m : Int} (hk : k ≤ 9) (hb : m < 128 ^ (10 - k)) (hm : 128 ≤ m) : k < 9 ∧ m / 128 < 128 ^ (10 - (k + 1)) := by
  have h9 : k < 9 := by
    rcases Nat.lt_or_ge k 9 with h | h
    · exact h
    · have : k = 9 := by omega
      subst this
      simp at hb
      omega
  refine ⟨h9, ?_⟩
  have e : 10 - k = (10 - (k + 1)) + 1 := by omega
  rw [e, Int.pow_succ] at hb
  exact Int.ediv_lt_of_lt_mul (by decide) hb

theorem uintB_byte : ∀ (f : Nat) (n : Int), 0 ≤ n → n < 128 ^ (f + 1) → ∀ z ∈ uintB f n, 0 ≤ z ∧ z ≤ 255 := by
  intro f
  induction f with
  | zero => intro n h0 h1 z hz; simp [uintB] at hz; simp at h1; omega
  | succ f ih =>
    intro n h0 h1 z hz
    rw [uintB] at hz
    split at hz
    · simp at hz; omega
    · rcases List.mem_cons.1 hz with h | h
      · omega
      · exact ih (n / 128) (by omega) (by rw [Int.pow_succ] at h1; exact Int.ediv_lt_of_lt_mul (by decide) h1) z h

set_option maxHeartbeats 400000 in
theorem uint_any (n : Int) (w : World) (h0 : 0 ≤ n) (h1 : n < 18446744073709551616) :
    Calls Try.prog 13 #[.int .u64 n] w fun e w' => ∃ v, e = .returned v ∧ w'.ownsRow w.heap.size 5 1 v (uintB 9 n).length ((uintB 9 n).map (Value.int .u8)) ∧ Below w.heap.size w w' := by
  obtain ⟨i0, hi, hz0, hz1, hz2⟩ := info_parts info5
  go_enter Try.func13, Try.ntmps13
  go_wp2_with (at_make; go_must (refine wpList_make_own _ rfl _ _ 23 rfl w.heap.size 5 i0 (.int .u8 0) 1 Try.underlying23 hi hz0 hz1 .i64 .i64 10 10 rfl rfl rfl (by omega) (by unfold maxLen; omega) (Nat.le_refl _) ?_; intro w1 hown hgrow))
  go_loopw [0, 3] (fun x v wr => ∃ (k : Nat) (m : Int) (pre : List Int), k ≤ 9 ∧ 0 ≤ m ∧ m ≤ 18446744073709551615 ∧ Hid (m < 128 ^ (10 - k)) ∧ Hid (pre.length = k) ∧ x = .int .u64 m ∧ v = .slice (some ⟨w.heap.size, 0, none⟩) k 10 ∧ wr.ownsRow w.heap.size 5 1 (.slice (some ⟨w.heap.size, 0, none⟩) k 10) k (pre.map (Value.int .u8)) ∧ Below w.heap.size w wr ∧ Hid (uintB 9 n = pre ++ uintB (9 - k) m))
    (fun x _ _ => (intOf x).toNat)
  case atStart => exact ⟨0, n, [], by omega, h0, by omega, by unfold Hid; omega, rfl, rfl, rfl, hown, (Below.refl _ _).grown hgrow (Nat.le_refl _) (by simp), rfl⟩
  case round =>
    clear hown hgrow
    obtain ⟨k, m, pre, hk, hm0, hm1, HM, HP, rfl, rfl, hown, hbel, HE⟩ := hrel
    by_cases hm : 128 ≤ m
    · obtain ⟨hk9, hq⟩ := fuel_more hk HM.out hm
      have HQ := hide hq
      have HN := hide (uintB_more (f := 9 - (k + 1)) (by have := HE.out; rwa [show 9 - k = 9 - (k + 1) + 1 by omega] at this) hm)
      clear hq HE
      go_wp2_with (at_builtin; go_must (refine wpList_append_fits _ rfl _ _ 23 rfl w.heap.size 5 i0 1 Try.underlying23 hi hz1 w.heap.size k 10 _ rfl (hown.alloc _) ⟨wr.heap.size, 0, none⟩ 1 1 [.int .u8 (bits .or .u8 (IntKind.u8.wrap m) 128)] rfl rfl (cell_one_new _ _ _) (one_cell _) (by omega) ?_))
      intro w2 hown' hgrow
      have hbel2 : Below w.heap.size w w2 := (hbel.alloc hbel.size _).grown hgrow (by have := hbel.size; simp; omega) (fun k hk => by simp at hk; omega)
      clear hgrow hown
      go_wp2
      go_roundw
      case rel => exact ⟨k + 1, m / 128, pre ++ [m % 128 + 128], by omega, by omega, by omega, HQ, by simp [Hid, HP.out], rfl, rfl, by rw [or_byte] at hown'; simpa using hown', hbel2, HN⟩
      case measure => simp [intOf]; omega
    · have HN := hide (uintB_last HE.out (by omega))
      clear HE
      go_wp2_with (at_builtin; go_must (refine wpList_append_fits _ rfl _ _ 23 rfl w.heap.size 5 i0 1 Try.underlying23 hi hz1 w.heap.size k 10 _ rfl (hown.alloc _) ⟨wr.heap.size, 0, none⟩ 1 1 [.int .u8 m] rfl rfl (cell_one_new _ _ _) (one_cell _) (by omega) ?_))
      intro w2 hown' hgrow
      have hbel2 : Below w.heap.size w w2 := (hbel.alloc hbel.size _).grown hgrow (by have := hbel.size; simp; omega) (fun k hk => by simp at hk; omega)
      clear hgrow hown
      go_wp2
      go_ret
      exact ⟨_, rfl, by rw [HN.out]; simpa [HP.out] using hown', hbel2⟩

theorem uintB_pos (f : Nat) (n : Int) : (uintB f n).length ≠ 0 := by
  cases f with
  | zero => simp [uintB]
  | succ f => rw [uintB]; split <;> simp

theorem uintB_len : ∀ (f : Nat) (n : Int), (uintB f n).length ≤ f + 1 := by
  intro f
  induction f with
  | zero => intro n; simp [uintB]
  | succ f ih => intro n; rw [uintB]; split
                 · simp
                 · have := ih (n / 128); simp; omega

set_option maxHeartbeats 400000 in
theorem refUint_any : ∀ (f : Nat) (n : Int) (w : World), f ≤ 9 → 0 ≤ n → n ≤ 18446744073709551615 → n < 128 ^ (f + 1) →
    Calls Try.prog 14 #[.int .u64 n] w fun e w' => ∃ a cap, e = .returned (.slice a (uintB f n).length cap) ∧ w'.ownsRow w.heap.size 5 1 (.slice a (uintB f n).length cap) (uintB f n).length ((uintB f n).map (Value.int .u8)) ∧ Below w.heap.size w w' := by
  intro f
  obtain ⟨i0, hi, hz0, hz1, hz2⟩ := info_parts info5
  induction f with
  | zero =>
    intro n w hf h0 h64 h1
    have h128 : n < 128 := by simpa using h1
    clear h1
    go_enter Try.func14, Try.ntmps14
    go_wp2_with fail
    go_ret
    exact ⟨_, _, rfl, World.ownsRow_lit w #[.int .u8 n] 1 (Nat.le_refl _) (by unfold maxLen; omega) rfl, (Below.refl _ _).alloc (Nat.le_refl _) _⟩
  | succ f ih =>
    intro n w hf h0 h64 h1
    by_cases h128 : n < 128
    · clear h1
      have HE : Hid (uintB (f + 1) n = [n]) := by unfold Hid; rw [uintB, if_pos h128]
      go_enter Try.func14, Try.ntmps14
      go_wp2_with fail
      go_ret
      rw [HE.out]
      exact ⟨_, _, rfl, World.ownsRow_lit w #[.int .u8 n] 1 (Nat.le_refl _) (by unfold maxLen; omega) rfl, (Below.refl _ _).alloc (Nat.le_refl _) _⟩
    · have HE : Hid (uintB (f + 1) n = (n % 128 + 128) :: uintB f (n / 128)) := by unfold Hid; rw [uintB, if_neg h128]
      have HB : Hid (n / 128 < 128 ^ (f + 1)) := by
        rw [Int.pow_succ] at h1
        exact Int.ediv_lt_of_lt_mul (by decide) h1
      have IH := hide ih
      clear h1 ih
      go_enter Try.func14, Try.ntmps14
      go_wp2_with fail
      refine (IH.out (n / 128) _ (by omega) (by omega) (by omega) HB.out).mono ?_
      rintro e w2 ⟨a2, cap2, rfl, hown2, hbel2⟩
      obtain ⟨g, ha, hg1, hg2, hnews⟩ := own_news hown2 (uintB_pos _ _)
      subst ha
      have hown1 : w2.ownsRow w.heap.size 5 1 (.slice (some ⟨w.heap.size, 0, none⟩) 1 1) 1 [.int .u8 (bits .or .u8 (n % 128) 128)] :=
        own_below (World.ownsRow_lit w #[.int .u8 (bits .or .u8 (n % 128) 128)] 1 (Nat.le_refl _) (by unfold maxLen; omega) rfl) hbel2 (Nat.le_refl _)
      have hbel1 : Below w.heap.size w w2 := ((Below.refl _ _).alloc (Nat.le_refl _) _).trans (hbel2.mono (by simp))
      have HNW := hide hnews
      have HLN := hide (uintB_len f (n / 128))
      clear hnews hbel2 hown2 IH HB
      generalize hU : uintB f (n / 128) = us at *
      have HU := hide hU
      clear hU
      go_wp2_with (at_builtin; go_must (refine wpList_append_own _ rfl _ _ 23 rfl w.heap.size 5 i0 (.int .u8 0) 1 1 Try.underlying23 hi hz0 hz1 hz2 rfl (by decide) _ _ _ rfl hown1 ⟨g, 0, none⟩ us.length cap2 (us.map (Value.int .u8)) rfl (by simp) HNW.out (ints_oneCell _ _) (by have := HLN.out; unfold maxLen; omega) (by have := HLN.out; omega) hbel1.size ?_))
      intro v' w3 hown3 hgrow _
      obtain ⟨a3, cap3, hv⟩ := own_shape hown3
      subst hv
      have hbel3 : Below w.heap.size w w3 := hbel1.grown hgrow hbel1.size (fun k hk => by simp [Value.ownBlock] at hk; omega)
      clear hgrow
      go_wp2_with fail
      go_ret
      rw [HE.out]
      refine ⟨a3, cap3, ?_, ?_, hbel3⟩
      · simp [Nat.add_comm]
      · rw [or128 _ (by omega) (by omega)] at hown3
        simpa [Nat.add_comm] using hown3

end Go.Proofs.Ytkiigmfdfkflpaa
