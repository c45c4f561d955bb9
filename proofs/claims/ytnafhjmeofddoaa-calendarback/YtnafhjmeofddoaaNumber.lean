/- A text's number: the document's. -/
import Derived.Test.YtnafhjmeofddoaaOf
namespace Go.Proofs.Ytnafhjmeofddoaa
open Go.RowKit

def isD (c : UInt8) : Prop := 48 ≤ (c.toNat : Int) ∧ (c.toNat : Int) ≤ 57
instance (c : UInt8) : Decidable (isD c) := by unfold isD; infer_instance

/-- The number of digits. -/
def valD (l : List UInt8) : Int := l.foldl (fun n c => n * 10 + ((c.toNat : Int) - 48)) 0

theorem valD_snoc (l : List UInt8) (c : UInt8) : valD (l ++ [c]) = valD l * 10 + ((c.toNat : Int) - 48) := by simp [valD]

theorem valD_bd : ∀ (n : Nat) (l : List UInt8), l.length = n → (∀ c ∈ l, isD c) → 0 ≤ valD l ∧ valD l < 10 ^ n := by
  intro n
  induction n with
  | zero => intro l hl _; have := List.eq_nil_of_length_eq_zero hl; subst this; simp [valD]
  | succ n ih =>
    intro l hl h
    rcases List.eq_nil_or_concat l with e | ⟨l', c, e⟩
    · subst e; simp at hl
    · rw [List.concat_eq_append] at e
      subst e
      have hc := h c (by simp)
      unfold isD at hc
      have := ih l' (by simpa using hl) (fun x hx => h x (by simp [hx]))
      rw [valD_snoc, Int.pow_succ]
      omega

theorem valD_small (l : List UInt8) (hl : l.length ≤ 8) (h : ∀ c ∈ l, isD c) : 0 ≤ valD l ∧ valD l ≤ 99999999 := by
  have hb := valD_bd l.length l rfl h
  have : (10 : Int) ^ l.length ≤ 10 ^ 8 := by
    have := Nat.pow_le_pow_right (n := 10) (by decide) hl
    exact_mod_cast this
  omega

/-- What number answers. -/
def numberP (l : List UInt8) : Int := if ∀ c ∈ l, isD c then valD l else -1

theorem take_snoc (s : ByteArray) (k : Nat) (h : k < s.size) : s.data.toList.take (k + 1) = s.data.toList.take k ++ [s[k]] := by
  rw [List.take_succ_eq_append_getElem (by simpa using h)]; rfl

theorem mem_at (s : ByteArray) (k : Nat) (h : k < s.size) : s[k] ∈ s.data.toList := by
  have : s[k] = s.data.toList[k]'(by simpa using h) := rfl
  rw [this]; exact List.getElem_mem _

set_option maxHeartbeats 400000 in
theorem number_any (t : ByteArray) (w : World) (h8 : t.size ≤ 8) :
    Calls Try.prog 36 #[.string t] w fun e w' => e = .returned (.int .i64 (numberP t.data.toList)) ∧ w' = w := by
  go_enter Try.func36, Try.ntmps36
  go_wp2_with fail
  go_loop [3, 4] (fun n i => ∃ k : Nat, k ≤ t.size ∧ i = .int .i64 k ∧ n = .int .i64 (valD (t.data.toList.take k)) ∧ Hid (∀ c ∈ t.data.toList.take k, isD c)) (fun _ i => t.size - (intOf i).toNat)
  case atStart => exact ⟨0, Nat.zero_le _, rfl, rfl, by simp [Hid]⟩
  case round =>
    obtain ⟨k, hk, rfl, rfl, HD⟩ := hrel
    have hbd := valD_small (t.data.toList.take k) (by simp; omega) HD.out
    by_cases hlt : k < t.size
    · have hb255 : (t[k].toNat : Int) ≤ 255 := by have := t[k].toNat_lt; omega
      have HS := hide (take_snoc t k hlt)
      have HM := hide (mem_at t k hlt)
      by_cases h1 : (t[k].toNat : Int) < 48
      · have HN : Hid (numberP t.data.toList = -1) := by unfold Hid numberP; rw [if_neg]; intro h; have := h _ HM.out; unfold isD at this; omega
        go_wp2
        go_ret
        exact ⟨ret_int (by rw [HN.out]), rfl⟩
      · by_cases h2 : 57 < (t[k].toNat : Int)
        · have HN : Hid (numberP t.data.toList = -1) := by unfold Hid numberP; rw [if_neg]; intro h; have := h _ HM.out; unfold isD at this; omega
          go_wp2
          go_ret
          exact ⟨ret_int (by rw [HN.out]), rfl⟩
        · have HV : Hid (valD (t.data.toList.take (k + 1)) = valD (t.data.toList.take k) * 10 + ((t[k].toNat : Int) - 48)) := by unfold Hid; rw [HS.out, valD_snoc]
          have HD2 : Hid (∀ c ∈ t.data.toList.take (k + 1), isD c) := by
            unfold Hid
            rw [HS.out]
            intro c hc
            rcases List.mem_append.1 hc with h | h
            · exact HD.out c h
            · simp at h; subst h; unfold isD; omega
          go_wp2
          go_round
          case rel => exact ⟨k + 1, by omega, by go_num, by rw [HV.out], HD2⟩
          case measure => simp [intOf]; omega
    · have HN : Hid (valD (t.data.toList.take k) = numberP t.data.toList) := by
        have hD := HD.out
        rw [List.take_of_length_le (by simp; omega)] at hD ⊢
        unfold numberP
        rw [if_pos hD]
        rfl
      go_wp2
      go_ret
      exact ⟨ret_int HN.out, rfl⟩

end Go.Proofs.Ytnafhjmeofddoaa
