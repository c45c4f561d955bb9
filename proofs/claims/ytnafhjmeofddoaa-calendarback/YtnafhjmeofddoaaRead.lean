/- A text's digits: the program's. -/
import Derived.Test.YtnafhjmeofddoaaNumber
import Derived.BigQuiet
namespace Go.Proofs.Ytnafhjmeofddoaa
open Go.RowKit

/-- The byte at a place, 0 beyond the end. -/
def byteAt (t : ByteArray) (k : Nat) : Int := ((t.data.toList.getD k 0).toNat : Int)

theorem byteAt_of (t : ByteArray) (k : Nat) (h : k < t.size) : (t[k].toNat : Int) = byteAt t k := by
  have e : t[k] = t.data.toList[k]'(by simpa using h) := rfl
  unfold byteAt
  have h' : k < t.data.size := h
  rw [e, show t.data.toList.getD k 0 = t.data.toList[k] by simp only [List.getD, Array.getElem?_toList]; rw [Array.getElem?_eq_getElem h']; rfl]

theorem byteAt_le (t : ByteArray) (k : Nat) : 0 ≤ byteAt t k ∧ byteAt t k ≤ 255 := by
  unfold byteAt
  have := (t.data.toList.getD k 0).toNat_lt
  omega

def okOne (t : ByteArray) (k : Nat) : Prop := if k = 4 ∨ k = 7 then byteAt t k = 45 else 48 ≤ byteAt t k ∧ byteAt t k ≤ 57

def okTo (t : ByteArray) : Nat → Prop
  | 0 => True
  | k + 1 => okTo t k ∧ okOne t k

/-- The number of the digits so far. -/
def partD (t : ByteArray) : Nat → Int
  | 0 => 0
  | k + 1 => if k = 4 ∨ k = 7 then partD t k else partD t k * 10 + (byteAt t k - 48)

theorem okTo_at (t : ByteArray) : ∀ (n k : Nat), k < n → okTo t n → okOne t k := by
  intro n
  induction n with
  | zero => intro k h; omega
  | succ n ih =>
    intro k h ho
    by_cases e : k = n
    · subst e; exact ho.2
    · exact ih k (by omega) ho.1

theorem partD_bd (t : ByteArray) : ∀ k, okTo t k → 0 ≤ partD t k ∧ partD t k < 10 ^ k := by
  intro k
  induction k with
  | zero => intro _; simp [partD]
  | succ k ih =>
    intro ⟨h1, h2⟩
    have := ih h1
    unfold partD
    unfold okOne at h2
    rw [Int.pow_succ]
    by_cases e : k = 4 ∨ k = 7
    · rw [if_pos e]; omega
    · rw [if_neg e] at h2 ⊢; omega

theorem partD_small (t : ByteArray) (k : Nat) (hk : k ≤ 10) (h : okTo t k) : 0 ≤ partD t k ∧ partD t k ≤ 10000000000 := by
  have hb := partD_bd t k h
  have : (10 : Int) ^ k ≤ 10 ^ 10 := by
    have := Nat.pow_le_pow_right (n := 10) (by decide) hk
    exact_mod_cast this
  omega

open Classical in
/-- What readDigits answers. -/
noncomputable def readP (t : ByteArray) : Int × Bool := if t.size = 10 ∧ okTo t 10 then (partD t 10, true) else (0, false)

def duoB (p : Int × Bool) : Value := .tuple #[.int .i64 p.1, .bool p.2]

theorem readP_no (t : ByteArray) (k : Nat) (hk : k < 10) (h : ¬ okOne t k) : readP t = (0, false) := by
  unfold readP; rw [if_neg]; intro ⟨_, h2⟩; exact h (okTo_at t 10 k hk h2)

set_option maxHeartbeats 800000 in
theorem readDigits_any (t : ByteArray) (w : World) :
    Calls Try.prog 35 #[.string t] w fun e w' => e = .returned (duoB (readP t)) ∧ ∃ n, w' = w.drewN n := by
  by_cases h10 : t.size = 10
  · have HR : Hid (okTo t 10 → readP t = (partD t 10, true)) := fun h => by unfold readP; rw [if_pos ⟨h10, h⟩]
    go_enter Try.func35, Try.ntmps35
    go_wp2
    go_loopw [4, 9] (fun n i wr => ∃ (k : Nat) (D : Int), k ≤ 10 ∧ i = .int .i64 k ∧ n = .int .i64 D ∧ 0 ≤ D ∧ D ≤ 10000000000 ∧ Hid (D = partD t k) ∧ Hid (okTo t k) ∧ ∃ m, Hid (wr = w.drewN m)) (fun _ i _ => (10 - intOf i).toNat)
    case atStart => exact ⟨0, 0, by omega, rfl, rfl, by omega, by omega, rfl, trivial, 0, rfl⟩
    case round =>
      obtain ⟨k, D, hk, rfl, rfl, hD0, hD1, HD, HO, m, HW⟩ := hrel
      have hc : k = 0 ∨ k = 1 ∨ k = 2 ∨ k = 3 ∨ k = 4 ∨ k = 5 ∨ k = 6 ∨ k = 7 ∨ k = 8 ∨ k = 9 ∨ k = 10 := by omega
      rcases hc with rfl | rfl | rfl | rfl | rfl | rfl | rfl | rfl | rfl | rfl | rfl
      · have hlt : 0 < t.size := by omega
        have HB := hide (byteAt_of t 0 hlt)
        have hb255 : (t[0].toNat : Int) ≤ 255 := by have := t[0].toNat_lt; omega
        by_cases h1 : (t[0].toNat : Int) < 48
        · have HN := hide (readP_no t 0 (by omega) (by unfold okOne; rw [if_neg (by decide), ← HB.out]; omega))
          go_wp2
          go_ret2
          exact ⟨by rw [HN.out]; rfl, _, HW⟩
        · by_cases h2 : 57 < (t[0].toNat : Int)
          · have HN := hide (readP_no t 0 (by omega) (by unfold okOne; rw [if_neg (by decide), ← HB.out]; omega))
            go_wp2
            go_ret2
            exact ⟨by rw [HN.out]; rfl, _, HW⟩
          · have HO2 : Hid (okTo t 1) := ⟨HO.out, by unfold okOne; rw [if_neg (by decide), ← HB.out]; omega⟩
            have HD2 : Hid (D * 10 + ((t[0].toNat : Int) - 48) = partD t 1) := by unfold Hid; rw [HB.out, HD.out]; rfl
            have hs := partD_small t 1 (by omega) HO2.out
            rw [← HD2.out] at hs
            go_wp2
            go_roundw
            case rel => exact ⟨1, _, by omega, rfl, rfl, by omega, by omega, HD2, HO2, _, HW⟩
            case measure => simp [intOf]
      · have hlt : 1 < t.size := by omega
        have HB := hide (byteAt_of t 1 hlt)
        have hb255 : (t[1].toNat : Int) ≤ 255 := by have := t[1].toNat_lt; omega
        by_cases h1 : (t[1].toNat : Int) < 48
        · have HN := hide (readP_no t 1 (by omega) (by unfold okOne; rw [if_neg (by decide), ← HB.out]; omega))
          go_wp2
          go_ret2
          exact ⟨by rw [HN.out]; rfl, _, HW⟩
        · by_cases h2 : 57 < (t[1].toNat : Int)
          · have HN := hide (readP_no t 1 (by omega) (by unfold okOne; rw [if_neg (by decide), ← HB.out]; omega))
            go_wp2
            go_ret2
            exact ⟨by rw [HN.out]; rfl, _, HW⟩
          · have HO2 : Hid (okTo t 2) := ⟨HO.out, by unfold okOne; rw [if_neg (by decide), ← HB.out]; omega⟩
            have HD2 : Hid (D * 10 + ((t[1].toNat : Int) - 48) = partD t 2) := by unfold Hid; rw [HB.out, HD.out]; rfl
            have hs := partD_small t 2 (by omega) HO2.out
            rw [← HD2.out] at hs
            go_wp2
            go_roundw
            case rel => exact ⟨2, _, by omega, rfl, rfl, by omega, by omega, HD2, HO2, _, HW⟩
            case measure => simp [intOf]
      · have hlt : 2 < t.size := by omega
        have HB := hide (byteAt_of t 2 hlt)
        have hb255 : (t[2].toNat : Int) ≤ 255 := by have := t[2].toNat_lt; omega
        by_cases h1 : (t[2].toNat : Int) < 48
        · have HN := hide (readP_no t 2 (by omega) (by unfold okOne; rw [if_neg (by decide), ← HB.out]; omega))
          go_wp2
          go_ret2
          exact ⟨by rw [HN.out]; rfl, _, HW⟩
        · by_cases h2 : 57 < (t[2].toNat : Int)
          · have HN := hide (readP_no t 2 (by omega) (by unfold okOne; rw [if_neg (by decide), ← HB.out]; omega))
            go_wp2
            go_ret2
            exact ⟨by rw [HN.out]; rfl, _, HW⟩
          · have HO2 : Hid (okTo t 3) := ⟨HO.out, by unfold okOne; rw [if_neg (by decide), ← HB.out]; omega⟩
            have HD2 : Hid (D * 10 + ((t[2].toNat : Int) - 48) = partD t 3) := by unfold Hid; rw [HB.out, HD.out]; rfl
            have hs := partD_small t 3 (by omega) HO2.out
            rw [← HD2.out] at hs
            go_wp2
            go_roundw
            case rel => exact ⟨3, _, by omega, rfl, rfl, by omega, by omega, HD2, HO2, _, HW⟩
            case measure => simp [intOf]
      · have hlt : 3 < t.size := by omega
        have HB := hide (byteAt_of t 3 hlt)
        have hb255 : (t[3].toNat : Int) ≤ 255 := by have := t[3].toNat_lt; omega
        by_cases h1 : (t[3].toNat : Int) < 48
        · have HN := hide (readP_no t 3 (by omega) (by unfold okOne; rw [if_neg (by decide), ← HB.out]; omega))
          go_wp2
          go_ret2
          exact ⟨by rw [HN.out]; rfl, _, HW⟩
        · by_cases h2 : 57 < (t[3].toNat : Int)
          · have HN := hide (readP_no t 3 (by omega) (by unfold okOne; rw [if_neg (by decide), ← HB.out]; omega))
            go_wp2
            go_ret2
            exact ⟨by rw [HN.out]; rfl, _, HW⟩
          · have HO2 : Hid (okTo t 4) := ⟨HO.out, by unfold okOne; rw [if_neg (by decide), ← HB.out]; omega⟩
            have HD2 : Hid (D * 10 + ((t[3].toNat : Int) - 48) = partD t 4) := by unfold Hid; rw [HB.out, HD.out]; rfl
            have hs := partD_small t 4 (by omega) HO2.out
            rw [← HD2.out] at hs
            go_wp2
            go_roundw
            case rel => exact ⟨4, _, by omega, rfl, rfl, by omega, by omega, HD2, HO2, _, HW⟩
            case measure => simp [intOf]
      · have hlt : 4 < t.size := by omega
        have HB := hide (byteAt_of t 4 hlt)
        by_cases h1 : (t[4].toNat : Int) = 45
        · have HO2 : Hid (okTo t 5) := ⟨HO.out, by unfold okOne; rw [if_pos (by decide), ← HB.out]; exact h1⟩
          have HD2 : Hid (D = partD t 5) := HD.out
          go_wp2
          go_region
          go_wp2
          go_roundw
          case rel => exact ⟨5, D, by omega, rfl, rfl, hD0, hD1, HD2, HO2, m + 1, by rw [HW.out]; rfl⟩
          case measure => simp [intOf]
        · have HN := hide (readP_no t 4 (by omega) (by unfold okOne; rw [if_pos (by decide), ← HB.out]; exact h1))
          have hf : ((({ data := #[48, 48, 48, 48, 45, 48, 48, 45, 48, 48] } : ByteArray)[4]'(by decide)).toNat : Int) = 45 := by decide
          go_wp2
          go_region
          go_wp2
          go_ret2
          exact ⟨by rw [HN.out]; rfl, m + 1, by rw [HW.out]; rfl⟩
      · have hlt : 5 < t.size := by omega
        have HB := hide (byteAt_of t 5 hlt)
        have hb255 : (t[5].toNat : Int) ≤ 255 := by have := t[5].toNat_lt; omega
        by_cases h1 : (t[5].toNat : Int) < 48
        · have HN := hide (readP_no t 5 (by omega) (by unfold okOne; rw [if_neg (by decide), ← HB.out]; omega))
          go_wp2
          go_ret2
          exact ⟨by rw [HN.out]; rfl, _, HW⟩
        · by_cases h2 : 57 < (t[5].toNat : Int)
          · have HN := hide (readP_no t 5 (by omega) (by unfold okOne; rw [if_neg (by decide), ← HB.out]; omega))
            go_wp2
            go_ret2
            exact ⟨by rw [HN.out]; rfl, _, HW⟩
          · have HO2 : Hid (okTo t 6) := ⟨HO.out, by unfold okOne; rw [if_neg (by decide), ← HB.out]; omega⟩
            have HD2 : Hid (D * 10 + ((t[5].toNat : Int) - 48) = partD t 6) := by unfold Hid; rw [HB.out, HD.out]; rfl
            have hs := partD_small t 6 (by omega) HO2.out
            rw [← HD2.out] at hs
            go_wp2
            go_roundw
            case rel => exact ⟨6, _, by omega, rfl, rfl, by omega, by omega, HD2, HO2, _, HW⟩
            case measure => simp [intOf]
      · have hlt : 6 < t.size := by omega
        have HB := hide (byteAt_of t 6 hlt)
        have hb255 : (t[6].toNat : Int) ≤ 255 := by have := t[6].toNat_lt; omega
        by_cases h1 : (t[6].toNat : Int) < 48
        · have HN := hide (readP_no t 6 (by omega) (by unfold okOne; rw [if_neg (by decide), ← HB.out]; omega))
          go_wp2
          go_ret2
          exact ⟨by rw [HN.out]; rfl, _, HW⟩
        · by_cases h2 : 57 < (t[6].toNat : Int)
          · have HN := hide (readP_no t 6 (by omega) (by unfold okOne; rw [if_neg (by decide), ← HB.out]; omega))
            go_wp2
            go_ret2
            exact ⟨by rw [HN.out]; rfl, _, HW⟩
          · have HO2 : Hid (okTo t 7) := ⟨HO.out, by unfold okOne; rw [if_neg (by decide), ← HB.out]; omega⟩
            have HD2 : Hid (D * 10 + ((t[6].toNat : Int) - 48) = partD t 7) := by unfold Hid; rw [HB.out, HD.out]; rfl
            have hs := partD_small t 7 (by omega) HO2.out
            rw [← HD2.out] at hs
            go_wp2
            go_roundw
            case rel => exact ⟨7, _, by omega, rfl, rfl, by omega, by omega, HD2, HO2, _, HW⟩
            case measure => simp [intOf]
      · have hlt : 7 < t.size := by omega
        have HB := hide (byteAt_of t 7 hlt)
        by_cases h1 : (t[7].toNat : Int) = 45
        · have HO2 : Hid (okTo t 8) := ⟨HO.out, by unfold okOne; rw [if_pos (by decide), ← HB.out]; exact h1⟩
          have HD2 : Hid (D = partD t 8) := HD.out
          go_wp2
          go_region
          go_wp2
          go_roundw
          case rel => exact ⟨8, D, by omega, rfl, rfl, hD0, hD1, HD2, HO2, m + 1, by rw [HW.out]; rfl⟩
          case measure => simp [intOf]
        · have HN := hide (readP_no t 7 (by omega) (by unfold okOne; rw [if_pos (by decide), ← HB.out]; exact h1))
          have hf : ((({ data := #[48, 48, 48, 48, 45, 48, 48, 45, 48, 48] } : ByteArray)[7]'(by decide)).toNat : Int) = 45 := by decide
          go_wp2
          go_region
          go_wp2
          go_ret2
          exact ⟨by rw [HN.out]; rfl, m + 1, by rw [HW.out]; rfl⟩
      · have hlt : 8 < t.size := by omega
        have HB := hide (byteAt_of t 8 hlt)
        have hb255 : (t[8].toNat : Int) ≤ 255 := by have := t[8].toNat_lt; omega
        by_cases h1 : (t[8].toNat : Int) < 48
        · have HN := hide (readP_no t 8 (by omega) (by unfold okOne; rw [if_neg (by decide), ← HB.out]; omega))
          go_wp2
          go_ret2
          exact ⟨by rw [HN.out]; rfl, _, HW⟩
        · by_cases h2 : 57 < (t[8].toNat : Int)
          · have HN := hide (readP_no t 8 (by omega) (by unfold okOne; rw [if_neg (by decide), ← HB.out]; omega))
            go_wp2
            go_ret2
            exact ⟨by rw [HN.out]; rfl, _, HW⟩
          · have HO2 : Hid (okTo t 9) := ⟨HO.out, by unfold okOne; rw [if_neg (by decide), ← HB.out]; omega⟩
            have HD2 : Hid (D * 10 + ((t[8].toNat : Int) - 48) = partD t 9) := by unfold Hid; rw [HB.out, HD.out]; rfl
            have hs := partD_small t 9 (by omega) HO2.out
            rw [← HD2.out] at hs
            go_wp2
            go_roundw
            case rel => exact ⟨9, _, by omega, rfl, rfl, by omega, by omega, HD2, HO2, _, HW⟩
            case measure => simp [intOf]
      · have hlt : 9 < t.size := by omega
        have HB := hide (byteAt_of t 9 hlt)
        have hb255 : (t[9].toNat : Int) ≤ 255 := by have := t[9].toNat_lt; omega
        by_cases h1 : (t[9].toNat : Int) < 48
        · have HN := hide (readP_no t 9 (by omega) (by unfold okOne; rw [if_neg (by decide), ← HB.out]; omega))
          go_wp2
          go_ret2
          exact ⟨by rw [HN.out]; rfl, _, HW⟩
        · by_cases h2 : 57 < (t[9].toNat : Int)
          · have HN := hide (readP_no t 9 (by omega) (by unfold okOne; rw [if_neg (by decide), ← HB.out]; omega))
            go_wp2
            go_ret2
            exact ⟨by rw [HN.out]; rfl, _, HW⟩
          · have HO2 : Hid (okTo t 10) := ⟨HO.out, by unfold okOne; rw [if_neg (by decide), ← HB.out]; omega⟩
            have HD2 : Hid (D * 10 + ((t[9].toNat : Int) - 48) = partD t 10) := by unfold Hid; rw [HB.out, HD.out]; rfl
            have hs := partD_small t 10 (by omega) HO2.out
            rw [← HD2.out] at hs
            go_wp2
            go_roundw
            case rel => exact ⟨10, _, by omega, rfl, rfl, by omega, by omega, HD2, HO2, _, HW⟩
            case measure => simp [intOf]
      · have HF := hide (HR.out HO.out)
        go_wp2
        go_ret2
        exact ⟨by rw [HF.out, HD.out]; rfl, _, HW⟩
  · have HN : Hid (readP t = (0, false)) := by unfold Hid readP; rw [if_neg (fun h => h10 h.1)]
    have h10' : ¬ (t.size : Int) = 10 := by omega
    go_enter Try.func35, Try.ntmps35
    go_wp2
    go_ret2
    exact ⟨by rw [HN.out]; rfl, 0, rfl⟩

end Go.Proofs.Ytnafhjmeofddoaa
