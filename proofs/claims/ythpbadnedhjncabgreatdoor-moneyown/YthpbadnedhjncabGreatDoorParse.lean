/- The document's Parse. -/
import Derived.Test.YthpbadnedhjncabGreatDoorDigit
import Derived.Deep.DeepCutAuto
import Derived.Deep.CutBlock
namespace Go.Proofs.YthpbadnedhjncabGreatDoor
open Go.RowKit

def negB (l : List Int) : Bool := decide (l.getD 0 0 = 45)
/-- Where the digits begin. -/
def atM (l : List Int) : Nat := if negB l = true then 1 else 0
/-- Where they end. -/
def endM (l : List Int) : Nat := atM l + ((l.drop (atM l)).takeWhile isDig).length
def headBad (l : List Int) : Bool := decide (endM l = atM l ∨ (l.getD (atM l) 0 = 48 ∧ atM l + 1 < endM l))
def restBad (l : List Int) (en : Nat) : Bool := decide (l.length ≠ en ∧ ¬ (l.length = en + 3 ∧ l.getD en 0 = 46 ∧ isDig (l.getD (en + 1) 0) = true ∧ isDig (l.getD (en + 2) 0) = true ∧ ¬ (l.getD (en + 1) 0 = 48 ∧ l.getD (en + 2) 0 = 48)))
def minusBad (l : List Int) : Bool := decide (atM l = 1 ∧ l.length = 2 ∧ l.getD 1 0 = 48)
def valM (l : List Int) : Int := l.foldl (fun n c => n * 10 + (c - 48)) 0
def centM (l : List Int) : Int := valM ((l.drop (atM l)).take (endM l - atM l)) * 100 + (if l.length = endM l then 0 else (l.getD (endM l + 1) 0 - 48) * 10 + (l.getD (endM l + 2) 0 - 48))
def parseM (l : List Int) : Int × Int :=
  if headBad l = true then (0, 21) else if restBad l (endM l) = true then (0, 21) else if minusBad l = true then (0, 21) else if 15 < endM l - atM l then (0, 22) else if 1000000000000000 < centM l then (0, 22) else (if negB l = true then -centM l else centM l, 0)

theorem takeWhile_len (l : List Int) : ∀ (n : Nat), n ≤ l.length → (∀ i, i < n → isDig (l.getD i 0) = true) → (n < l.length → isDig (l.getD n 0) = false) → (l.takeWhile isDig).length = n := by
  induction l with
  | nil => intro n h _ _; simp at h; simp [h]
  | cons a l ih =>
    intro n h h1 h2
    cases n with
    | zero =>
      have := h2 (by simp)
      simp at this
      simp [List.takeWhile, this]
    | succ n =>
      have h3 := h1 0 (by omega)
      simp at h3
      rw [List.takeWhile_cons, h3]
      simp
      exact ih n (by simpa using h) (fun i hi => by have := h1 (i + 1) (by omega); simpa using this) (fun hn => by have := h2 (by simpa using hn); simpa using this)

theorem end_of {l : List Int} {en : Nat} (h0 : atM l ≤ en) (h : en ≤ l.length) (h1 : ∀ i, atM l ≤ i → i < en → isDig (l.getD i 0) = true) (h2 : en < l.length → isDig (l.getD en 0) = false) : en = endM l := by
  unfold endM
  rw [takeWhile_len (l.drop (atM l)) (en - atM l) (by rw [List.length_drop]; omega)]
  · omega
  · intro i hi
    have := h1 (atM l + i) (by omega) (by omega)
    simpa [List.getD] using this
  · intro hi
    rw [List.length_drop] at hi
    have := h2 (by omega)
    rw [show en = atM l + (en - atM l) by omega] at this
    simpa [List.getD] using this

theorem at_le (l : List Int) : atM l ≤ l.length := by
  unfold atM negB
  cases l with
  | nil => simp
  | cons a l => split <;> simp

theorem ext_size (s : ByteArray) (en : Nat) : (s.extract en s.size).size = s.size - en := by simp

theorem ext_at (s : ByteArray) (en k : Nat) (h : k < (s.extract en s.size).size) (h' : en + k < s.size) : (((s.extract en s.size)[k]'h).toNat : Int) = ((s[en + k]'h').toNat : Int) := by
  congr 2
  show (s.extract en s.size).data[k] = s.data[en + k]
  simp

theorem rest_three {l : List Int} {en : Nat} (h : l.length = en + 3) : restBad l en = !(decide (l.getD (en + 0) 0 = 46) && isDig (l.getD (en + 1) 0) && isDig (l.getD (en + 2) 0) && !(decide (l.getD (en + 1) 0 = 48) && decide (l.getD (en + 2) 0 = 48))) := by
  unfold restBad
  rw [h]
  generalize l.getD (en + 1) 0 = a
  generalize l.getD (en + 2) 0 = b
  rw [Nat.add_zero]
  generalize l.getD en 0 = c
  by_cases h1 : c = 46 <;> by_cases h2 : a = 48 <;> by_cases h3 : b = 48 <;> cases h4 : isDig a <;> cases h5 : isDig b <;> simp [*]

theorem three_list (R : ByteArray) (h : R.size = 3) : R.toList = [R[0], R[1], R[2]] := by
  rw [ByteArray.toList_eq]
  apply List.ext_getElem
  · simp; exact h
  · intro i h1 h2
    simp at h2
    rcases (show i = 0 ∨ i = 1 ∨ i = 2 by omega) with rfl | rfl | rfl <;> simp <;> rfl

theorem three_eq (a b c : UInt8) : ([a, b, c] == [46, 48, 48]) = (decide ((a.toNat : Int) = 46) && decide ((b.toNat : Int) = 48) && decide ((c.toNat : Int) = 48)) := by
  have t : ∀ (x y : UInt8) (n : Nat), y.toNat = n → (x == y) = decide ((x.toNat : Int) = n) := by
    intro x y n hn
    rw [Bool.eq_iff_iff]
    simp
    constructor
    · rintro rfl; omega
    · intro h; exact UInt8.toNat_inj.1 (by omega)
  have t1 := t a 46 46 rfl
  have t2 := t b 48 48 rfl
  have t3 := t c 48 48 rfl
  show ((a == 46) && ((b == 48) && ((c == 48) && true))) = _
  rw [t1, t2, t3]; simp [Bool.and_assoc]

theorem minus_eq {s : ByteArray} {l : List Int} (h : l = strB s) (hA : atM l = 1) : ((s.extract 1 s.size).toList == [48]) = minusBad l := by
  unfold minusBad
  rw [hA]
  have e : (s.extract 1 s.size).toList = s.data.toList.drop 1 := by
    rw [ByteArray.toList_eq]
    apply List.ext_getElem
    · simp
    · intro i h1 h2; simp
  have t : ∀ x : UInt8, (x == 48) = decide ((x.toNat : Int) = 48) := by
    intro x
    rw [Bool.eq_iff_iff]
    simp
    constructor
    · rintro rfl; decide
    · intro h; exact UInt8.toNat_inj.1 (by simp; omega)
  rw [e, h]
  unfold strB
  generalize s.data.toList = u
  match u with
  | [] => rfl
  | [a] => simp
  | [a, b] =>
    have := t b
    show ((b == 48) && true) = _
    rw [this]; simp
  | a :: b :: c :: r => simp

theorem val_step {l : List Int} {A k : Nat} {c v : Int} (hk : A ≤ k) (hl : k < l.length) (hc : l.getD k 0 = c) (hv : v = valM ((l.drop A).take (k - A))) : v * 10 + (c - 48) = valM ((l.drop A).take (k + 1 - A)) := by
  rw [show k + 1 - A = (k - A) + 1 by omega, take_succ_getD (l.drop A) (k - A) (by rw [List.length_drop]; omega)]
  unfold valM at *
  rw [List.foldl_append, ← hv]
  have : (l.drop A)[k - A]?.getD 0 = c := by rw [← hc, List.getElem?_drop, show A + (k - A) = k by omega]; simp [List.getD]
  rw [this]; rfl

theorem ten_step {A k : Nat} {v c : Int} (hk : A ≤ k) (h : v < 10 ^ (k - A)) (hc : 48 ≤ c ∧ c ≤ 57) : v * 10 + (c - 48) < 10 ^ (k + 1 - A) := by
  rw [show k + 1 - A = (k - A) + 1 by omega, Int.pow_succ]
  omega

theorem ten_cap {n : Nat} {v : Int} (h : v < 10 ^ n) (hn : n ≤ 15) : v ≤ 999999999999999 := by
  have h1 : (10 : Nat) ^ n ≤ 10 ^ 15 := Nat.pow_le_pow_right (by decide) hn
  have h2 : ((10 : Int) ^ n) ≤ 10 ^ 15 := by exact_mod_cast h1
  have h3 : (10 : Int) ^ 15 = 1000000000000000 := by decide
  omega

theorem rest_good {l : List Int} {en : Nat} (h : restBad l en = false) (hn : l.length ≠ en) : l.length = en + 3 ∧ (48 ≤ l.getD (en + 1) 0 ∧ l.getD (en + 1) 0 ≤ 57) ∧ (48 ≤ l.getD (en + 2) 0 ∧ l.getD (en + 2) 0 ≤ 57) := by
  unfold restBad at h
  have h1 := of_decide_eq_false h
  have h2 := Classical.not_not.1 (fun hh => h1 ⟨hn, hh⟩)
  exact ⟨h2.1, of_decide_eq_true h2.2.2.1, of_decide_eq_true h2.2.2.2.1⟩

theorem wrap_i64 (n : Int) (h : -9223372036854775808 ≤ n ∧ n ≤ 9223372036854775807) : IntKind.i64.wrap n = n := by
  simp only [IntKind.wrap, IntKind.bits, IntKind.signed]
  simp
  omega

theorem cents_wraps (v x1 x2 : Int) (hv0 : 0 ≤ v) (hv1 : v ≤ 999999999999999) (h1 : 48 ≤ x1 ∧ x1 ≤ 57) (h2 : 48 ≤ x2 ∧ x2 ≤ 57) :
    ∃ y1 y2 z1 z2 N : Int, IntKind.u8.wrap (x1 - 48) = y1 ∧ IntKind.u8.wrap (x2 - 48) = y2 ∧ (IntKind.i64.wrap y1 = y1 ∧ IntKind.i64.wrap y2 = y2) ∧ IntKind.i64.wrap (y1 * 10) = z1 ∧ IntKind.i64.wrap (v * 100 + z1) = z2 ∧ IntKind.i64.wrap (z2 + y2) = N ∧ Hid (N = v * 100 + ((x1 - 48) * 10 + (x2 - 48))) := by
  refine ⟨x1 - 48, x2 - 48, (x1 - 48) * 10, v * 100 + (x1 - 48) * 10, v * 100 + (x1 - 48) * 10 + (x2 - 48), ?_, ?_, ⟨wrap_i64 _ (by omega), wrap_i64 _ (by omega)⟩, wrap_i64 _ (by omega), wrap_i64 _ (by omega), wrap_i64 _ (by omega), by unfold Hid; omega⟩
  · rw [IntKind.wrap_u8']; omega
  · rw [IntKind.wrap_u8']; omega

theorem emp_yes {s : ByteArray} (h : s.size = 0) : s.toList.isEmpty = true := by
  rw [ByteArray.toList_eq]
  simp only [List.isEmpty_iff]
  exact List.eq_nil_of_length_eq_zero (by simpa using h)

theorem emp_no {s : ByteArray} (h : s.size ≠ 0) : s.toList.isEmpty = false := by
  rw [ByteArray.toList_eq]
  cases hh : s.data.toList with
  | nil => exact absurd (by have := congrArg List.length hh; simpa using this) h
  | cons _ _ => rfl

end Go.Proofs.YthpbadnedhjncabGreatDoor
