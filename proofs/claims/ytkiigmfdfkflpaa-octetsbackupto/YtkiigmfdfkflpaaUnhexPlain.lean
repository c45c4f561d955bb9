/- The plain mathematics of hexadecimal digits: what a digit stands for, the first sign that is none, the bytes of digits. No Go in sight. -/
import Derived.Laws.BitsAllLaws
namespace Go.Proofs.Ytkiigmfdfkflpaa

/-- What a digit stands for; -1: it is none. -/
def nib (c : Int) : Int := if 48 ≤ c ∧ c ≤ 57 then c - 48 else if 97 ≤ c ∧ c ≤ 102 then c - 87 else if 65 ≤ c ∧ c ≤ 70 then c - 55 else -1

theorem nib_range (c : Int) : -1 ≤ nib c ∧ nib c ≤ 15 := by unfold nib; split <;> (try split) <;> (try split) <;> omega

/-- The bytes of pairs of digits. -/
def pairs : List Int → List Int
  | a :: b :: r => (nib a * 16 + nib b) :: pairs r
  | _ => []

/-- All are digits. -/
def allDig (l : List Int) : Prop := ∀ z ∈ l, 0 ≤ nib z

/-- The first that is no digit, counted from k on. -/
def badAt : Nat → List Int → Option Nat
  | _, [] => none
  | k, c :: r => if nib c < 0 then some k else badAt (k + 1) r

/-- What Unhex answers: the bytes, the error, the place. -/
def unhexS (l : List Int) : List Int × Int × Int :=
  match badAt 0 l with
  | some i => ([], 12, i)
  | none => if l.length % 2 = 1 then ([], 3, l.length) else (pairs l, 0, 0)

theorem badAt_none : ∀ (l : List Int) (k : Nat), allDig l → badAt k l = none := by
  intro l
  induction l with
  | nil => intro k _; rfl
  | cons c r ih =>
    intro k h
    have hc := h c (by simp)
    rw [badAt, if_neg (by omega)]
    exact ih (k + 1) (fun z hz => h z (by simp [hz]))

theorem badAt_some : ∀ (l : List Int) (k j : Nat) (c : Int) (r : List Int), l.drop j = c :: r → allDig (l.take j) → nib c < 0 → badAt k l = some (k + j) := by
  intro l
  induction l with
  | nil => intro k j c r h; simp at h
  | cons x t ih =>
    intro k j c r h hd hc
    cases j with
    | zero =>
      simp at h
      rw [badAt, h.1, if_pos hc]; rfl
    | succ j =>
      have hx := hd x (by simp)
      rw [badAt, if_neg (by omega), ih (k + 1) j c r (by simpa using h) (fun z hz => hd z (by simp [hz])) hc]
      congr 1
      omega

theorem unhexS_bad {l : List Int} {j : Nat} {c : Int} (hj : j < l.length) (hc : c = l.getD j 0) (hd : allDig (l.take j)) (hb : nib c < 0) : unhexS l = ([], 12, (j : Int)) := by
  have h : l.drop j = c :: l.drop (j + 1) := by rw [List.drop_eq_getElem_cons hj, hc]; simp [List.getD, hj]
  unfold unhexS
  rw [badAt_some l 0 j c _ h hd hb, Nat.zero_add]

theorem unhexS_odd {l : List Int} (hd : allDig l) (ho : l.length % 2 = 1) : unhexS l = ([], 3, (l.length : Int)) := by
  unfold unhexS; rw [badAt_none l 0 hd]; simp [ho]

theorem unhexS_ok {l : List Int} (hd : allDig l) (ho : ¬ l.length % 2 = 1) : unhexS l = (pairs l, 0, 0) := by
  unfold unhexS; rw [badAt_none l 0 hd]; simp [ho]

theorem pairs_len : ∀ (n : Nat) (l : List Int), l.length = n → (pairs l).length = n / 2 := by
  intro n
  induction n using Nat.strongRecOn with
  | ind n ih =>
    intro l hl
    match l, hl with
    | [], hl => simp at hl; subst hl; rfl
    | [_], hl => simp at hl; subst hl; rfl
    | a :: b :: r, hl =>
      simp at hl
      have := ih r.length (by omega) r rfl
      simp [pairs, this]
      omega

theorem pairs_snoc : ∀ (n : Nat) (l : List Int) (a b : Int), l.length = n → n % 2 = 0 → pairs (l ++ [a, b]) = pairs l ++ [nib a * 16 + nib b] := by
  intro n
  induction n using Nat.strongRecOn with
  | ind n ih =>
    intro l a b hl hn
    match l, hl with
    | [], _ => rfl
    | [_], hl => simp at hl; omega
    | x :: y :: r, hl =>
      simp at hl
      simp [pairs, ih r.length (by omega) r a b rfl (by omega)]

theorem pairs_byte : ∀ (n : Nat) (l : List Int), l.length = n → allDig l → ∀ z ∈ pairs l, 0 ≤ z ∧ z ≤ 255 := by
  intro n
  induction n using Nat.strongRecOn with
  | ind n ih =>
    intro l hl hd z hz
    match l, hl with
    | [], _ => simp [pairs] at hz
    | [_], _ => simp [pairs] at hz
    | x :: y :: r, hl =>
      simp at hl
      rcases List.mem_cons.1 hz with h | h
      · have h1 := hd x (by simp)
        have h2 := hd y (by simp)
        have h3 := nib_range x
        have h4 := nib_range y
        omega
      · exact ih r.length (by omega) r rfl (fun z hz => hd z (by simp [hz])) z h

theorem allDig_snoc {l : List Int} {k : Nat} {c : Int} (ht : l.take (k + 1) = l.take k ++ [c]) (hd : allDig (l.take k)) (hc : 0 ≤ nib c) : allDig (l.take (k + 1)) := by
  rw [ht]; intro z hz
  rcases List.mem_append.1 hz with h | h
  · exact hd z h
  · simp at h; rw [h]; exact hc

theorem badAt_dig : ∀ (l : List Int) (k : Nat), badAt k l = none → allDig l := by
  intro l
  induction l with
  | nil => intro k _ z hz; simp at hz
  | cons c r ih =>
    intro k h z hz
    rw [badAt] at h
    by_cases hc : nib c < 0
    · rw [if_pos hc] at h; simp at h
    · rw [if_neg hc] at h
      rcases List.mem_cons.1 hz with e | e
      · rw [e]; omega
      · exact ih (k + 1) h z e

theorem unhexS_byte (l : List Int) : ∀ z ∈ (unhexS l).1, 0 ≤ z ∧ z ≤ 255 := by
  unfold unhexS
  cases h : badAt 0 l with
  | some i => simp
  | none =>
    by_cases ho : l.length % 2 = 1
    · simp [ho]
    · simp only [ho, if_false]
      exact pairs_byte _ l rfl (badAt_dig l 0 h)

theorem unhexS_len (l : List Int) : (unhexS l).1.length ≤ l.length := by
  unfold unhexS
  cases h : badAt 0 l with
  | some i => simp
  | none =>
    by_cases ho : l.length % 2 = 1
    · simp [ho]
    · simp only [ho, if_false]
      have := pairs_len _ l rfl
      omega

/-- Two digits make a byte. -/
theorem join_digits (h d : Int) (h0 : 0 ≤ h) (h1 : h ≤ 15) (d0 : 0 ≤ d) (d1 : d ≤ 15) : bits .or .u8 (h * 16) d = h * 16 + d := by
  obtain ⟨x, rfl⟩ := Int.eq_ofNat_of_zero_le h0
  obtain ⟨y, rfl⟩ := Int.eq_ofNat_of_zero_le d0
  have := u8_or_nat (x * 16) y (by omega) (by omega)
  rw [nat_join 4 (x * 16) y (by omega) (by omega)] at this
  have e : ((x : Int) * 16) = ((x * 16 : Nat) : Int) := by omega
  rw [e, this]
  omega

end Go.Proofs.Ytkiigmfdfkflpaa
