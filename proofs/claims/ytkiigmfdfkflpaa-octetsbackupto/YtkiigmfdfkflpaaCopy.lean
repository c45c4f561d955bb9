/- CopyBytes answers a slice of its own with the same bytes, and SameBytes says whether two slices hold the same bytes. -/
import Derived.Test.YtkiigmfdfkflpaaBase
namespace Go.Proofs.Ytkiigmfdfkflpaa
open Go.RowKit

set_option maxHeartbeats 400000 in
theorem copy_any (a : Option Addr) (len cap : Nat) (zs : List Int) (w : World) (hl : zs.length = len) (hlen : len ≤ 140737488355328) (h : Row w a zs) :
    Calls Try.prog 9 #[.slice a len cap] w fun e w' => ∃ v, e = .returned v ∧ w'.ownsRow w.heap.size 5 1 v len (zs.map (Value.int .u8)) ∧ Below w.heap.size w w' := by
  obtain ⟨i0, hi, hz0, hz1, hz2⟩ := info_parts info5
  have HL : Hid (zs.length = len) := hl
  have HR : Hid (Row w a zs) := h
  clear hl h
  go_enter Try.func9, Try.ntmps9
  go_wp2
  go_loopw [3, 4] (fun v i wr => ∃ k : Nat, k ≤ len ∧ i = .int .i64 k ∧ wr.ownsRow w.heap.size 5 1 v k ((zs.take k).map (Value.int .u8)) ∧ Below w.heap.size w wr)
    (fun _ i _ => len - (intOf i).toNat)
  case atStart => exact ⟨0, Nat.zero_le _, rfl, World.ownsRow_nil _ _ _ _, Below.refl _ _⟩
  case round =>
    obtain ⟨k, hk, rfl, hown, hbel⟩ := hrel
    by_cases hlt : k < len
    · obtain ⟨b, off, c, ha, hcx, HT⟩ := Row.get HR.out HL.out hbel hlt
      subst ha
      go_wp2_with (first
        | (at_builtin; go_must (refine wpList_append_own _ rfl _ _ 23 rfl w.heap.size 5 i0 (.int .u8 0) 1 1 Try.underlying23 hi hz0 hz1 hz2 rfl (by decide) _ _ _ rfl (hown.alloc _) ⟨wr.heap.size, 0, none⟩ 1 1 [.int .u8 c] rfl rfl (cell_one_new _ _ _) ?c2 ?c3 ?c4 ?c5 ?_))
        | go_in)
      case c2 => intro u hu; simp at hu; subst hu; rfl
      case c3 => unfold maxLen; omega
      case c4 => omega
      case c5 => have := hbel.size; simp; omega
      intro v' w1 hown' hgrow _
      have hbel1 : Below w.heap.size w w1 := (hbel.alloc hbel.size _).grown hgrow (by have := hbel.size; simp; omega) (fun k hk => (hown.lt k hk).1)
      clear hgrow
      go_wp2
      go_roundw
      case rel => exact ⟨k + 1, by omega, by go_num, by rw [HT.out]; simpa using hown', hbel1⟩
      case measure => simp [intOf]; omega
    · go_wp2
      go_ret
      have : k = len := by omega
      subst this
      rw [List.take_of_length_le (by rw [HL.out]; omega)] at hown
      exact ⟨_, rfl, hown, hbel⟩

theorem take_eq_step {xs ys : List Int} {k : Nat} {c d : Int} (hx : xs.take (k + 1) = xs.take k ++ [c]) (hy : ys.take (k + 1) = ys.take k ++ [d]) (h : xs.take k = ys.take k) (hcd : c = d) : xs.take (k + 1) = ys.take (k + 1) := by
  rw [hx, hy, h, hcd]

theorem take_ne {xs ys : List Int} {k : Nat} {c d : Int} (hx : xs.take (k + 1) = xs.take k ++ [c]) (hy : ys.take (k + 1) = ys.take k ++ [d]) (h : xs.take k = ys.take k) (hcd : c ≠ d) : xs ≠ ys := by
  intro e; subst e; rw [hx] at hy; exact hcd (by simpa using hy)

theorem ret_bool {a b : Bool} (h : a = b) : Ending.returned (.bool a) = .returned (.bool b) := by rw [h]

set_option maxHeartbeats 400000 in
theorem same_any (a1 a2 : Option Addr) (len1 cap1 len2 cap2 : Nat) (xs ys : List Int) (w : World) (hl1 : xs.length = len1) (hl2 : ys.length = len2) (hlen : len1 ≤ 140737488355328) (h1 : Row w a1 xs) (h2 : Row w a2 ys) :
    Calls Try.prog 12 #[.slice a1 len1 cap1, .slice a2 len2 cap2] w fun e w' => e = .returned (.bool (decide (xs = ys))) ∧ Below w.heap.size w w' := by
  have HL1 : Hid (xs.length = len1) := hl1
  have HL2 : Hid (ys.length = len2) := hl2
  have HR1 : Hid (Row w a1 xs) := h1
  have HR2 : Hid (Row w a2 ys) := h2
  clear hl1 hl2 h1 h2
  by_cases hne : len1 = len2
  · subst hne
    go_enter Try.func12, Try.ntmps12
    go_wp2
    go_loopw [5] (fun i wr => ∃ k : Nat, k ≤ len1 ∧ i = .int .i64 k ∧ Hid (xs.take k = ys.take k) ∧ Below w.heap.size w wr)
      (fun i _ => len1 - (intOf i).toNat)
    case atStart => exact ⟨0, Nat.zero_le _, rfl, by simp [Hid], Below.refl _ _⟩
    case round =>
      obtain ⟨k, hk, rfl, HE, hbel⟩ := hrel
      by_cases hlt : k < len1
      · obtain ⟨b1, off1, c, ha1, hcx1, HT1⟩ := Row.get HR1.out HL1.out hbel hlt
        obtain ⟨b2, off2, d, ha2, hcx2, HT2⟩ := Row.get HR2.out HL2.out hbel hlt
        subst ha1
        subst ha2
        by_cases hcd : c = d
        · have hcdb : (c != d) = false := by simp [hcd]
          have HCD : Hid (c = d) := hcd
          clear hcd
          go_wp2
          go_region
          all_goals (try go_wp2)
          all_goals
            go_roundw
            case rel => exact ⟨k + 1, by omega, by go_num, take_eq_step HT1.out HT2.out HE.out HCD.out, by first | exact hbel.drew | exact hbel.drew.drew | exact hbel⟩
            case measure => simp [intOf]; omega
        · have hcdb : (c != d) = true := by simp [hcd]
          have HCD : Hid (c ≠ d) := hcd
          clear hcd
          go_wp2
          go_region
          all_goals (try go_wp2)
          all_goals go_ret
          all_goals exact ⟨ret_bool (by simp [take_ne HT1.out HT2.out HE.out HCD.out]), by first | exact hbel.drew | exact hbel.drew.drew | exact hbel⟩
      · go_wp2
        go_ret
        have : xs = ys := by
          have h := HE.out
          rw [List.take_of_length_le (by rw [HL1.out]; omega), List.take_of_length_le (by rw [HL2.out]; omega)] at h
          exact h
        exact ⟨ret_bool (by simp [this]), hbel⟩
  · have hb : ((len1 : Int) != len2) = true := by simp; omega
    have HN : Hid (xs ≠ ys) := by
      intro e
      have h1 := HL1.out
      have h2 := HL2.out
      subst e; omega
    go_enter Try.func12, Try.ntmps12
    go_wp2
    go_ret
    exact ⟨ret_bool (by simp [HN.out]), Below.refl _ _⟩

end Go.Proofs.Ytkiigmfdfkflpaa
