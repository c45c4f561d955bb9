/- NaiveLeast, plainly: bytes within bytes. -/
import Derived.Test.YtbnkdfhjdjgnhaaRnd
import Derived.Laws.BitsAllLaws
namespace Go.Proofs.Ytbnkdfhjdjgnhaa
open Go.RowKit

/-- All bits of the one are the other's. -/
def Sub (x y : Int) : Prop := ∀ i : Nat, x.toNat.testBit i = true → y.toNat.testBit i = true
theorem byte_nat {x : Int} (h : isByte x) : ∃ n : Nat, x = (n : Int) ∧ n < 256 := by
  obtain ⟨n, rfl⟩ := Int.eq_ofNat_of_zero_le h.1
  exact ⟨n, rfl, by have := h.2; omega⟩
theorem bit_high {n i : Nat} (h : n < 256) (hi : n.testBit i = true) : i < 8 := by
  apply Classical.byContradiction
  intro hn
  have : n.testBit i = false := Nat.testBit_lt_two_pow (Nat.lt_of_lt_of_le (show n < 2 ^ 8 from h) (Nat.pow_le_pow_right (n := 2) (by decide) (Nat.le_of_not_lt hn)))
  rw [this] at hi
  cases hi
theorem andNot_iff {x y : Int} (hx : isByte x) (hy : isByte y) : bits .andNot .u8 x y = 0 ↔ Sub x y := by
  obtain ⟨a, rfl, ha⟩ := byte_nat hx
  obtain ⟨b, rfl, hb⟩ := byte_nat hy
  rw [u8_andNot_nat a b ha hb]
  unfold Sub
  rw [Int.toNat_natCast, Int.toNat_natCast]
  have e : 255 - b = 2 ^ 8 - (b + 1) := by omega
  have key : ∀ i, (a &&& (255 - b)).testBit i = (a.testBit i && (decide (i < 8) && !b.testBit i)) := fun i => by rw [Nat.testBit_and, e, Nat.testBit_two_pow_sub_succ (by omega)]
  constructor
  · intro h i hi
    have h0 : a &&& (255 - b) = 0 := by omega
    have := key i
    rw [h0, Nat.zero_testBit, hi] at this
    simp only [Bool.true_and] at this
    rw [decide_eq_true (bit_high ha hi)] at this
    simpa using this.symm
  · intro h
    have : a &&& (255 - b) = 0 := by
      apply Nat.eq_of_testBit_eq
      intro i
      rw [key, Nat.zero_testBit]
      cases hi : a.testBit i with
      | false => rfl
      | true => rw [h i hi]; simp
    rw [this]
    rfl
theorem or_bit {x y : Int} (hx : isByte x) (hy : isByte y) : isByte (bits .or .u8 x y) ∧ ∀ i, (bits .or .u8 x y).toNat.testBit i = (x.toNat.testBit i || y.toNat.testBit i) := by
  obtain ⟨a, rfl, ha⟩ := byte_nat hx
  obtain ⟨b, rfl, hb⟩ := byte_nat hy
  rw [u8_or_nat a b ha hb]
  have := Nat.or_lt_two_pow (n := 8) (x := a) (y := b) ha hb
  refine ⟨⟨by omega, by omega⟩, fun i => ?_⟩
  rw [Int.toNat_natCast, Int.toNat_natCast, Int.toNat_natCast, Nat.testBit_or]
def tb (t : Int) : Nat := t.toNat - 1
theorem bitM_pow {t : Int} (ht : isTag t) : bitM t = ((2 ^ tb t : Nat) : Int) ∧ tb t < 4 := by rcases ht with rfl | rfl | rfl | rfl <;> decide
theorem bitM_byte {t : Int} (ht : isTag t) : isByte (bitM t) := by rcases ht with rfl | rfl | rfl | rfl <;> exact ⟨by decide, by decide⟩
theorem hb_bit {x t : Int} (hx : isByte x) (ht : isTag t) : hb x t = x.toNat.testBit (tb t) := by
  obtain ⟨a, rfl, ha⟩ := byte_nat hx
  obtain ⟨h1, h2⟩ := bitM_pow ht
  unfold hb
  have hk : 2 ^ tb t < 256 := Nat.pow_lt_pow_right (a := 2) (by decide) (show tb t < 8 by omega)
  rw [h1, u8_and_nat a _ ha hk, Int.toNat_natCast]
  generalize tb t = k at *
  cases hb : a.testBit k with
  | false =>
    have : a &&& 2 ^ k = 0 := by
      apply Nat.eq_of_testBit_eq
      intro i
      rw [Nat.testBit_and, Nat.testBit_two_pow, Nat.zero_testBit]
      by_cases e : k = i
      · subst e; rw [hb]; rfl
      · rw [decide_eq_false e, Bool.and_false]
    rw [this]
    rfl
  | true =>
    have : a &&& 2 ^ k ≠ 0 := by
      intro e
      have h3 : (a &&& 2 ^ k).testBit k = false := by rw [e, Nat.zero_testBit]
      rw [Nat.testBit_and, Nat.testBit_two_pow, hb] at h3
      simp at h3
    simp only [bne_iff_ne, ne_eq]
    omega
theorem orB_bit {x t : Int} (hx : isByte x) (ht : isTag t) (i : Nat) : (orB x t).toNat.testBit i = (x.toNat.testBit i || decide (tb t = i)) := by
  have := (or_bit hx (bitM_byte ht)).2 i
  unfold orB
  rw [this, (bitM_pow ht).1, Int.toNat_natCast, Nat.testBit_two_pow]
section
variable {T : Th} {F m m' : List Int} {n : Nat}
theorem add_high {q t x : Int} (hx : isByte x) (ht : isTag t) {i : Nat} (hi : 4 ≤ i) : (addM T F m q t x).toNat.testBit i = x.toNat.testBit i := by
  unfold addM
  split
  · rw [orB_bit hx ht, decide_eq_false (by have := (bitM_pow ht).2; omega), Bool.or_false]
  · rfl
theorem round_high {q i : Nat} (hm : Bys m) (hq : q < m.length) (hi : 4 ≤ i) : ((roundM T F m).getD q 0).toNat.testBit i = (m.getD q 0).toNat.testBit i := by
  rw [round_at hq]
  have a := (addM_facts (T := T) (F := F) (m := m) (q := q) (hm q) tag1 tag1).2.1
  have b := (addM_facts (T := T) (F := F) (m := m) (q := q) a tag2 tag1).2.1
  have c := (addM_facts (T := T) (F := F) (m := m) (q := q) b tag3 tag1).2.1
  show (addM T F m q 4 (addM T F m q 3 (addM T F m q 2 (addM T F m q 1 (m.getD q 0))))).toNat.testBit i = _
  rw [add_high c tag4 hi, add_high b tag3 hi, add_high a tag2 hi, add_high (hm q) tag1 hi]
/-- All of some marks among others, bit by bit. -/
def Inn8 (m m' : List Int) : Prop := ∀ q : Nat, Sub (m.getD q 0) (m'.getD q 0)
theorem hs_bit {q : Nat} {t : Int} (hm : Bys m) (ht : isTag t) : hs m q t = (m.getD q 0).toNat.testBit (tb t) := by
  unfold hs
  rw [Int.toNat_natCast]
  exact hb_bit (hm q) ht
theorem Inn8.le (hm : Bys m) (hm' : Bys m') (h : Inn8 m m') : Le m m' := by
  intro q t h0 ht hq
  obtain ⟨k, rfl⟩ := Int.eq_ofNat_of_zero_le h0
  rw [hs_bit hm ht] at hq
  rw [hs_bit hm' ht]
  exact h k _ hq
theorem tag_of {i : Nat} (hi : i < 4) : isTag ((i : Int) + 1) ∧ tb ((i : Int) + 1) = i := by
  rcases (show i = 0 ∨ i = 1 ∨ i = 2 ∨ i = 3 by omega) with rfl | rfl | rfl | rfl
  · exact ⟨tag1, by decide⟩
  · exact ⟨tag2, by decide⟩
  · exact ⟨tag3, by decide⟩
  · exact ⟨tag4, by decide⟩
theorem inn8_of (hm : Bys m) (hm' : Bys m') (hle : Le m m') (hh : ∀ (q i : Nat), 4 ≤ i → (m.getD q 0).toNat.testBit i = true → (m'.getD q 0).toNat.testBit i = true) : Inn8 m m' := by
  intro q i hi
  by_cases h4 : i < 4
  · obtain ⟨h1, h2⟩ := tag_of h4
    have := hle q _ (by omega) h1 (by rw [hs_bit hm h1, h2]; exact hi)
    rw [hs_bit hm' h1, h2] at this
    exact this
  · exact hh q i (by omega) hi
theorem round_inn (hp : Pf T F n) (hm : Bys m) (hm' : Bys m') (hl : m.length = n) (hl' : m'.length = n) (h : Inn8 m m') : Inn8 (roundM T F m) (roundM T F m') := by
  refine inn8_of (round_bys hm) (round_bys hm') (round_mono hp (h.le hm hm') hm hm' hl hl') fun q i hi hb => ?_
  by_cases hq : q < n
  · rw [round_high hm (by omega) hi] at hb
    rw [round_high hm' (by omega) hi]
    exact h q i hb
  · rw [getD_far (by rw [round_len]; omega)] at hb
    simp at hb
theorem round_own (hm : Bys m) : Inn8 m (roundM T F m) := by
  refine inn8_of hm (round_bys hm) (round_le hm) fun q i hi hb => ?_
  by_cases hq : q < m.length
  · rw [round_high hm hq hi]; exact hb
  · rw [getD_far (by omega)] at hb
    simp at hb
theorem Mk_least (hp : Pf T F n) (hm : Bys m) (hl : m.length = n) (hf : roundM T F m = m) : ∀ k, Le (Mk T F k) m
  | 0 => fun q t h0 ht hq => by
    have : hs (Mk T F 0) q t = false := by
      show hb ((List.replicate T.lits.toNat 0).getD q.toNat 0) t = false
      rw [zeros_at]; exact hb_zero ht
    rw [this] at hq; cases hq
  | k + 1 => by
    have := round_mono hp (Mk_least hp hm hl hf k) Mk_bys hm (Mk_len hp) hl
    rw [hf, ← Mk_succ] at this
    exact this
/-- What rounds end with is within whatever a round leaves as it is. -/
theorem sol_least {k : Nat} {s : List Int} (hp : Pf T F n) (h : Sol T F s k) (hm : Bys m) (hl : m.length = n) (hf : roundM T F m = m) : Inn8 s m := by
  refine inn8_of (sol_bys h) hm ?_ fun q i hi hb => ?_
  · rw [h.1]; exact Mk_least hp hm hl hf k
  · exfalso
    have hs : s.getD q 0 < 16 := by rw [h.1]; exact Mk_small q
    have h0 := (sol_bys h q).1
    have : (s.getD q 0).toNat.testBit i = false := Nat.testBit_lt_two_pow (Nat.lt_of_lt_of_le (by omega : (s.getD q 0).toNat < 2 ^ 4) (Nat.pow_le_pow_right (by omega) hi))
    rw [this] at hb
    cases hb
end
end Go.Proofs.Ytbnkdfhjdjgnhaa
