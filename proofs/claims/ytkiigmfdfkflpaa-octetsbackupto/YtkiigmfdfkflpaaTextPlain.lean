/- The plain mathematics of texts as bytes: a text's length ahead of its bytes; how it is read. No Go in sight. -/
import Derived.Test.YtkiigmfdfkflpaaNums
import Derived.Laws.BytesArg
namespace Go.Proofs.Ytkiigmfdfkflpaa

/-- A text's bytes as numbers. -/
def strB (s : ByteArray) : List Int := s.data.toList.map fun b => (b.toNat : Int)

theorem strB_len (s : ByteArray) : (strB s).length = s.size := by simp [strB]

theorem strB_byte (s : ByteArray) : ∀ z ∈ strB s, 0 ≤ z ∧ z ≤ 255 := by
  intro z hz
  obtain ⟨b, _, rfl⟩ := List.mem_map.1 hz
  have := b.toNat_lt
  omega

/-- What ReadText answers: the text's bytes, the place, the error. -/
def readT (zs : List Int) (p : Int) : List Int × Int × Int :=
  let r := readU zs p
  if r.2.2 ≠ 0 then ([], r.2.1, r.2.2)
  else if (zs.length : Int) - r.2.1 < r.1 then ([], zs.length, 8)
  else ((zs.drop r.2.1.toNat).take r.1.toNat, r.2.1 + r.1, 0)

theorem rd_ok_bounds : ∀ (l : List Int) (len p : Int) (k : Nat) (acc n to : Int), rd len p k acc l = (n, to, 0) → k ≤ 9 → 0 ≤ acc → acc < 2 ^ (7 * k) → (∀ z ∈ l, 0 ≤ z ∧ z ≤ 255) → p + k + l.length ≤ len →
    0 ≤ n ∧ n < 18446744073709551616 ∧ p < to ∧ to ≤ len := by
  intro l
  induction l with
  | nil => intro len p k acc n to h; simp [rd] at h
  | cons c r ih =>
    intro len p k acc n to h hk h0 h1 hb hl
    have hc := hb c (by simp)
    simp only [List.length_cons] at hl
    rw [rd] at h
    by_cases c1 : k = 9 ∧ 1 < c
    · rw [if_pos c1] at h; simp at h
    · rw [if_neg c1] at h
      by_cases c2 : 128 ≤ c
      · rw [if_pos c2] at h
        have hk9 : k < 9 := by omega
        exact ih len p (k + 1) _ n to h (by omega) (acc_pos _ _ _ h0 (by omega)) (acc_next _ _ _ h1 (by omega)) (fun z hz => hb z (by simp [hz])) (by omega)
      · rw [if_neg c2] at h
        by_cases c3 : c = 0 ∧ 0 < k
        · rw [if_pos c3] at h; simp at h
        · rw [if_neg c3] at h
          simp only [Prod.mk.injEq] at h
          obtain ⟨hn, ht, _⟩ := h
          have hd : c % 128 = c := by omega
          rw [hd] at hn
          refine ⟨by rw [← hn]; exact acc_pos _ _ _ h0 hc.1, ?_, by omega, by omega⟩
          rw [← hn]
          by_cases h9 : k = 9
          · subst h9
            have hc1 : c ≤ 1 := by omega
            simp at h1 ⊢
            omega
          · have := acc_next acc c k h1 (by omega)
            have hp : (2 : Int) ^ (7 * (k + 1)) ≤ 2 ^ 63 := by
              have := Nat.pow_le_pow_right (n := 2) (by decide) (show 7 * (k + 1) ≤ 63 by omega)
              exact_mod_cast this
            have e : (2 : Int) ^ 63 = 9223372036854775808 := by decide
            omega

theorem readU_ok {zs : List Int} {p n to : Int} (h : readU zs p = (n, to, 0)) (hb : ∀ z ∈ zs, 0 ≤ z ∧ z ≤ 255) : 0 ≤ p ∧ 0 ≤ n ∧ n < 18446744073709551616 ∧ p < to ∧ to ≤ zs.length := by
  unfold readU at h
  by_cases hp : p < 0 ∨ (zs.length : Int) < p
  · rw [if_pos hp] at h; simp at h
  · rw [if_neg hp] at h
    have := rd_ok_bounds _ _ _ 0 0 n to h (by omega) (by omega) (by simp) (fun z hz => hb z (List.mem_of_mem_drop hz)) (by simp; omega)
    exact ⟨by omega, this⟩

theorem readT_err {zs : List Int} {p n to e : Int} (h : readU zs p = (n, to, e)) (he : e ≠ 0) : readT zs p = ([], to, e) := by
  unfold readT; rw [h]; simp [he]

theorem readT_short {zs : List Int} {p n to : Int} (h : readU zs p = (n, to, 0)) (hs : (zs.length : Int) - to < n) : readT zs p = ([], (zs.length : Int), 8) := by
  unfold readT; rw [h]; simp [hs]

theorem readT_ok {zs : List Int} {p n to : Int} (h : readU zs p = (n, to, 0)) (hs : ¬ (zs.length : Int) - to < n) : readT zs p = ((zs.drop to.toNat).take n.toNat, to + n, 0) := by
  unfold readT; rw [h]; simp [hs]

end Go.Proofs.Ytkiigmfdfkflpaa
