/- The plain mathematics of there and back: numbers and texts are read as they were laid, among other bytes too; what is read is laid so; digits of bytes are these bytes. No Go in sight. -/
import Derived.Test.YtkiigmfdfkflpaaText
import Derived.Test.YtkiigmfdfkflpaaUnhexPlain
import Derived.Test.YtkiigmfdfkflpaaHex
namespace Go.Proofs.Ytkiigmfdfkflpaa

theorem pow_next (k : Nat) : (2 : Int) ^ (7 * (k + 1)) = 128 * 2 ^ (7 * k) := by
  rw [Nat.mul_add, Int.pow_add]; omega

theorem pow_pos7 (k : Nat) : (0 : Int) < 2 ^ (7 * k) := Int.pow_pos (by decide)

/-- The last byte of a number. -/
theorem rd_last (len p : Int) (k : Nat) (acc m : Int) (rest : List Int) (h0 : 0 ≤ m) (h1 : m < 128) (hk : 0 < k → 0 < m) (h9 : k = 9 → m ≤ 1) : rd len p k acc (m :: rest) = (acc + m * 2 ^ (7 * k), p + k + 1, 0) := by
  rw [rd, if_neg (by omega), if_neg (by omega), if_neg (by omega), show m % 128 = m by omega]

/-- A number that was laid is read. -/
theorem rd_uint : ∀ (f : Nat) (len p : Int) (k : Nat) (acc m : Int) (rest : List Int), k + f = 9 → 0 ≤ m → m * 2 ^ (7 * k) < 18446744073709551616 → (0 < k → 0 < m) →
    rd len p k acc (uintB f m ++ rest) = (acc + m * 2 ^ (7 * k), p + k + (uintB f m).length, 0) := by
  intro f
  induction f with
  | zero =>
    intro len p k acc m rest hkf h0 hb hk
    have hk9 : k = 9 := by omega
    subst hk9
    have hm : m ≤ 1 := by
      have e : (2 : Int) ^ (7 * 9) = 9223372036854775808 := by decide
      rw [e] at hb
      omega
    have h := rd_last len p 9 acc m rest h0 (by omega) hk (fun _ => hm)
    rw [uintB]
    exact h
  | succ f ih =>
    intro len p k acc m rest hkf h0 hb hk
    rw [uintB]
    by_cases hm : m < 128
    · rw [if_pos hm]
      exact rd_last len p k acc m rest h0 hm hk (by omega)
    · rw [if_neg hm, List.cons_append, rd, if_neg (by omega), if_pos (by omega)]
      have hp := pow_pos7 k
      have hb2 : m / 128 * 2 ^ (7 * (k + 1)) < 18446744073709551616 := by
        rw [pow_next]
        have e : m / 128 * (128 * 2 ^ (7 * k)) = (m / 128 * 128) * 2 ^ (7 * k) := by rw [Int.mul_assoc]
        have le : (m / 128 * 128) * 2 ^ (7 * k) ≤ m * 2 ^ (7 * k) := Int.mul_le_mul_of_nonneg_right (by omega) (by omega)
        rw [e]; omega
      rw [ih len p (k + 1) _ (m / 128) rest (by omega) (by omega) hb2 (fun _ => by omega)]
      have e1 : (m % 128 + 128) % 128 = m % 128 := by omega
      have e2 : acc + m % 128 * 2 ^ (7 * k) + m / 128 * 2 ^ (7 * (k + 1)) = acc + m * 2 ^ (7 * k) := by
        rw [pow_next, show m / 128 * (128 * 2 ^ (7 * k)) = (m / 128 * 128) * 2 ^ (7 * k) by rw [Int.mul_assoc], Int.add_assoc, ← Int.add_mul]
        congr 2
        omega
      rw [e1, e2, List.length_cons]
      congr 2
      omega

theorem readU_uint (ahead rest : List Int) (n : Int) (h0 : 0 ≤ n) (h1 : n < 18446744073709551616) : readU (ahead ++ (uintB 9 n ++ rest)) ahead.length = (n, (ahead.length : Int) + (uintB 9 n).length, 0) := by
  unfold readU
  rw [if_neg (by simp; omega)]
  have e : ((ahead.length : Int)).toNat = ahead.length := by omega
  rw [e, List.drop_left, rd_uint 9 _ _ 0 0 n rest rfl h0 (by simpa using h1) (by omega)]
  simp

/-- What is read is laid so. -/
theorem rd_laid : ∀ (l : List Int) (len p : Int) (k : Nat) (acc n to : Int), rd len p k acc l = (n, to, 0) → k ≤ 9 → (∀ z ∈ l, 0 ≤ z ∧ z ≤ 255) →
    ∃ (m : Int) (j : Nat), 0 ≤ m ∧ (0 < k → 0 < m) ∧ n = acc + m * 2 ^ (7 * k) ∧ to = p + k + j ∧ uintB (9 - k) m = l.take j := by
  intro l
  induction l with
  | nil => intro len p k acc n to h; simp [rd] at h
  | cons c r ih =>
    intro len p k acc n to h hk hb
    have hc := hb c (by simp)
    rw [rd] at h
    by_cases c1 : k = 9 ∧ 1 < c
    · rw [if_pos c1] at h; simp at h
    · rw [if_neg c1] at h
      by_cases c2 : 128 ≤ c
      · rw [if_pos c2] at h
        have hk9 : k < 9 := by omega
        obtain ⟨m, j, hm0, hmk, hn, ht, hu⟩ := ih len p (k + 1) _ n to h (by omega) (fun z hz => hb z (by simp [hz]))
        have hm := hmk (by omega)
        refine ⟨c % 128 + 128 * m, j + 1, by omega, fun _ => by omega, ?_, by omega, ?_⟩
        · rw [hn, pow_next, show m * (128 * 2 ^ (7 * k)) = (128 * m) * 2 ^ (7 * k) by rw [← Int.mul_assoc, Int.mul_comm m], Int.add_assoc, ← Int.add_mul]
        · rw [show 9 - k = (9 - (k + 1)) + 1 by omega, uintB, if_neg (by omega), show (c % 128 + 128 * m) / 128 = m by omega, hu, List.take_succ_cons]
          congr 1
          omega
      · rw [if_neg c2] at h
        by_cases c3 : c = 0 ∧ 0 < k
        · rw [if_pos c3] at h; simp at h
        · rw [if_neg c3] at h
          simp only [Prod.mk.injEq] at h
          obtain ⟨hn, ht, _⟩ := h
          refine ⟨c, 1, hc.1, fun _ => by omega, ?_, by omega, ?_⟩
          · rw [← hn, show c % 128 = c by omega]
          · simp only [List.take_succ_cons, List.take_zero]
            cases h9 : 9 - k with
            | zero => rw [uintB]
            | succ f => rw [uintB, if_pos (by omega)]

theorem readU_laid {zs : List Int} {n to : Int} (h : readU zs 0 = (n, to, 0)) (hb : ∀ z ∈ zs, 0 ≤ z ∧ z ≤ 255) : uintB 9 n = zs.take to.toNat := by
  unfold readU at h
  rw [if_neg (by omega)] at h
  obtain ⟨m, j, _, _, hn, ht, hu⟩ := rd_laid _ _ _ 0 0 n to h (by omega) (fun z hz => hb z (by simpa using hz))
  have e1 : n = m := by rw [hn]; simp
  have e2 : to.toNat = j := by omega
  rw [e1, e2]
  simpa using hu

/-! Texts. -/

theorem strOfNums_strB (s : ByteArray) : strOfNums (strB s) = s := by
  unfold strOfNums strB
  cases s with
  | mk d =>
    congr 1
    apply Array.ext'
    simp [List.map_map, Function.comp_def]

theorem strB_strOfNums (l : List Int) (h : ∀ z ∈ l, 0 ≤ z ∧ z ≤ 255) : strB (strOfNums l) = l := by
  unfold strB strOfNums
  simp only [List.map_map]
  conv => rhs; rw [← List.map_id l]
  apply List.map_congr_left
  intro z hz
  have := h z hz
  simp only [Function.comp, id]
  rw [UInt8.toNat_ofNat_of_lt' (by show z.toNat < 256; omega)]
  omega

theorem readT_text (ahead rest : List Int) (s : ByteArray) (hs : s.size < 18446744073709551616) :
    readT (ahead ++ (textB s ++ rest)) ahead.length = (strB s, (ahead.length : Int) + (textB s).length, 0) := by
  have e : ahead ++ (textB s ++ rest) = ahead ++ (uintB 9 s.size ++ (strB s ++ rest)) := by simp [textB]
  have h := readU_uint ahead (strB s ++ rest) (s.size : Int) (by omega) (by omega)
  rw [e]
  have hl := strB_len s
  rw [readT_ok h (by simp [hl]; omega)]
  have hd : (ahead ++ (uintB 9 s.size ++ (strB s ++ rest))).drop ((ahead.length : Int) + (uintB 9 s.size).length).toNat = strB s ++ rest := by
    rw [show ((ahead.length : Int) + (uintB 9 (s.size : Int)).length).toNat = ahead.length + (uintB 9 (s.size : Int)).length by omega, ← List.append_assoc ahead]
    rw [show ahead.length + (uintB 9 (s.size : Int)).length = (ahead ++ uintB 9 (s.size : Int)).length by simp, List.drop_left]
  rw [hd, show ((s.size : Int)).toNat = (strB s).length by rw [hl]; omega, List.take_left, textB_len]
  rw [show (ahead.length : Int) + (uintB 9 (s.size : Int)).length + (s.size : Int) = (ahead.length : Int) + (((uintB 9 (s.size : Int)).length + s.size : Nat) : Int) by omega]

/-! Digits. -/

theorem nib_hexD (q : Nat) (h : q < 16) : nib (hexD q) = q := by
  unfold hexD nib
  by_cases h1 : q < 10
  · rw [if_pos h1, if_pos (by omega)]; omega
  · rw [if_neg h1, if_neg (by omega), if_pos (by omega)]; omega

theorem hexD_byte (q : Nat) (h : q < 16) : 0 ≤ hexD q ∧ hexD q ≤ 255 := by unfold hexD; split <;> omega

theorem hexB_byte (l : List Int) (h : ∀ z ∈ l, 0 ≤ z ∧ z ≤ 255) : ∀ z ∈ hexB l, 0 ≤ z ∧ z ≤ 255 := by
  intro z hz
  unfold hexB at hz
  obtain ⟨c, hc, hz⟩ := List.mem_flatMap.1 hz
  have hb := h c hc
  simp at hz
  rcases hz with rfl | rfl
  · exact hexD_byte _ (by omega)
  · exact hexD_byte _ (by omega)

theorem hexB_dig (l : List Int) (h : ∀ z ∈ l, 0 ≤ z ∧ z ≤ 255) : allDig (hexB l) := by
  intro z hz
  unfold hexB at hz
  obtain ⟨c, hc, hz⟩ := List.mem_flatMap.1 hz
  have hb := h c hc
  simp at hz
  rcases hz with rfl | rfl
  · rw [nib_hexD _ (by omega)]; omega
  · rw [nib_hexD _ (by omega)]; omega

theorem pairs_hexB : ∀ (l : List Int), (∀ z ∈ l, 0 ≤ z ∧ z ≤ 255) → pairs (hexB l) = l := by
  intro l
  induction l with
  | nil => intro _; rfl
  | cons c r ih =>
    intro h
    have hb := h c (by simp)
    have e : hexB (c :: r) = hexD (c / 16).toNat :: hexD (c % 16).toNat :: hexB r := by simp [hexB]
    rw [e, pairs, nib_hexD _ (by omega), nib_hexD _ (by omega), ih (fun z hz => h z (by simp [hz]))]
    congr 1
    omega

theorem unhex_hex (l : List Int) (h : ∀ z ∈ l, 0 ≤ z ∧ z ≤ 255) : unhexS (strB (strOfNums (hexB l))) = (l, 0, 0) := by
  rw [strB_strOfNums _ (hexB_byte l h), unhexS_ok (hexB_dig l h) (by rw [hexB_len]; omega), pairs_hexB l h]

end Go.Proofs.Ytkiigmfdfkflpaa
