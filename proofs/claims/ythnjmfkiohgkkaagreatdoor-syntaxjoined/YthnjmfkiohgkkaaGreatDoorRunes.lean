/- A text's characters, and the call of the scanner's state. -/
import Derived.Test.YthnjmfkiohgkkaaGreatDoorLexAll
import Derived.Test.YthnjmfkiohgkkaaGreatDoorStates2
namespace Go.Proofs.YthnjmfkiohgkkaaGreatDoor
open Go.RowKit

theorem cls_high (c : Int) (h : 128 ≤ c) : cls c = 0 := by
  have : ∀ x, x = cls c → x = 0 := by
    intro x hx
    unfold cls at hx
    repeat' split at hx
    all_goals omega
  exact this _ rfl

theorem get!_getD (T : ByteArray) (k : Nat) (h : k < T.size) : T.get! k = T.data.toList.getD k 0 := by
  have h' : k < T.data.size := h
  rw [getD_at T k h]
  show T.data[k]! = _
  rw [getElem!_pos T.data k h']; rfl

theorem rune_of (T : ByteArray) (pos : Nat) (h : pos < T.size) : Rune T.data.toList pos ((Utf8.decode T pos).1 : Int) (Utf8.decode T pos).2 := by
  have hlen : T.data.toList.length = T.size := by simp
  have hg := getD_at T pos h
  by_cases ha : T[pos].toNat < 128
  · rw [decode_ascii T pos h ha]
    exact ⟨by omega, Nat.le_refl _, by show pos + 1 ≤ _; omega, by show cls _ = clsB _; rw [hg]; rfl, fun j h1 h2 h3 => by simp at h3⟩
  · have hh := decode_high T pos h (by omega)
    have hb : clsB (T.data.toList.getD pos 0) = 0 := by rw [hg]; exact cls_high _ (by omega)
    have hc : cls ((Utf8.decode T pos).1 : Int) = 0 := cls_high _ (by omega)
    have hw : (Utf8.decode T pos).2 = 1 ∨ (pos + (Utf8.decode T pos).2 ≤ T.size ∧ ∀ k, 1 ≤ k → k < (Utf8.decode T pos).2 → 128 ≤ (T.get! (pos + k)).toNat) := by
      have hn : ¬ (T.get! (pos + 0)).toNat < 128 := by rw [get_at T pos h]; exact ha
      simp only [Utf8.decode, hn, if_false]
      split
      · next h1 =>
        split
        · right
          simp only [Bool.and_eq_true, decide_eq_true_eq, beq_iff_eq] at h1
          refine ⟨by show pos + 2 ≤ _; omega, fun k k1 k2 => ?_⟩
          have : k = 1 := by simp at k2; omega
          subst this; omega
        · exact .inl rfl
      · split
        · next h1 =>
          split
          · right
            simp only [Bool.and_eq_true, decide_eq_true_eq, beq_iff_eq] at h1
            refine ⟨by show pos + 3 ≤ _; omega, fun k k1 k2 => ?_⟩
            have : k = 1 ∨ k = 2 := by simp at k2; omega
            rcases this with rfl | rfl <;> omega
          · exact .inl rfl
        · split
          · next h1 =>
            split
            · right
              simp only [Bool.and_eq_true, decide_eq_true_eq, beq_iff_eq] at h1
              refine ⟨by show pos + 4 ≤ _; omega, fun k k1 k2 => ?_⟩
              have : k = 1 ∨ k = 2 ∨ k = 3 := by simp at k2; omega
              rcases this with rfl | rfl | rfl <;> omega
            · exact .inl rfl
          · exact .inl rfl
    refine ⟨by omega, hh.2, ?_, by rw [hc, hb], fun j h1 h2 h3 => ?_⟩
    · rcases hw with hw | hw <;> omega
    · rcases hw with hw | hw
      · omega
      · by_cases e : j = pos
        · subst e; exact hb
        · have := hw.2 (j - pos) (by omega) (by omega)
          have e2 : pos + (j - pos) = j := by omega
          rw [e2, get!_getD T j (by omega)] at this
          exact cls_high _ (by omega)

/-- The call of the scanner's state. -/
theorem step_call (B : Nat) (s : List UInt8) (T : ByteArray) (hTs : T.data.toList = s ++ [10]) (R : Res) (S : St) (i w' : Nat) (c : Int) (w : World) (h : Sc B T S w) (hr : Rune T.data.toList i c w') (hI : Inv T.data.toList R S i) (hT : T.size ≤ 1000000) :
    Calls Tryz.prog S.fn #[.pointer (some ⟨B, 0, none⟩), .int .i64 i, .int .i32 c] w fun r w' => r = .returned (.tuple #[]) ∧ Sc B T (stepS T.data.toList S i c) w' ∧ Fr B w w' := by
  have hlen : T.data.toList.length = T.size := by simp
  have hil : i < T.size := by have := hr.lt; omega
  obtain ⟨he, hile, ⟨hf, ht, hm, hW⟩ | ⟨hlt, ht, hm, hW, hk⟩⟩ := hI
  · simp only [stepS, hf, if_true]
    exact between_ok B T S i c w h (by omega)
  · rcases hk with ⟨hf, h1, h2⟩ | ⟨hf, h1, h2⟩ | ⟨hf, h1, h2⟩ | ⟨hf, h1, p, h2, h3, h4, h5, h6, h7⟩ | ⟨hf, h1, h2⟩ | ⟨hf, h1, h2⟩ | ⟨hf, h1, h2⟩ | ⟨hf, h1, h2⟩
    all_goals simp only [stepS, hf]
    · exact inName_ok B T S i c w h (by omega) hT hil (by omega)
    · exact inVar_ok B T S i c w h (by omega) hT hil (by omega)
    · refine inNumber_ok B T S i c w h (by omega) hT hil (by omega) (fun h9 => ?_)
      have hc := hr.cls
      rcases Nat.lt_or_ge (i + 1) T.size with h5 | h5
      · exact h5
      · exfalso
        have e : i = s.length := by rw [hTs] at hlen; simp at hlen; omega
        rw [h9, hTs, e, getD_mid] at hc
        revert hc; decide
    · exact inFraction_ok B T S i c w h (by omega) hil (by omega)
    · exact inDate_ok B T S i c w h (by omega) hT hil (by omega)
    · exact inQuote_ok B T S i c w h (by omega) hT hil (by omega)
    · exact inRemark_ok B T S i c w h (by omega) hT hil (by omega)
    · exact inMark_ok B T S i c w h (by omega) hT hil (by omega)
end Go.Proofs.YthnjmfkiohgkkaaGreatDoor
