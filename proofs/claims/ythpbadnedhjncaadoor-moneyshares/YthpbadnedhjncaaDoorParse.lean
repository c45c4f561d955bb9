/- The document's Parse. -/
import Derived.Test.YthpbadnedhjncaaDoorDigit
import Derived.Deep.DeepCutAuto
import Derived.Deep.CutBlock
namespace Go.Proofs.YthpbadnedhjncaaDoor
open Go.RowKit

def negB (l : List Int) : Bool := decide (l.getD 0 0 = 45)
/-- Where the digits begin. -/
def atM (l : List Int) : Nat := if negB l = true then 1 else 0
/-- Where they end. -/
def endM (l : List Int) : Nat := atM l + ((l.drop (atM l)).takeWhile isDig).length
def headBad (l : List Int) : Bool := decide (endM l = atM l ∨ (l.getD (atM l) 0 = 48 ∧ atM l + 1 < endM l))
def restBad (l : List Int) (en : Nat) : Bool := decide (l.length ≠ en ∧ ¬ (l.length = en + 3 ∧ l.getD en 0 = 46 ∧ isDig (l.getD (en + 1) 0) = true ∧ isDig (l.getD (en + 2) 0) = true ∧ ¬ (l.getD (en + 1) 0 = 48 ∧ l.getD (en + 2) 0 = 48)))
def minusBad (l : List Int) : Bool := decide (atM l = 1 ∧ l.length = 2 ∧ l.getD 1 0 = 48)
def valM (l : List Int) : Int := l.foldl (fun n c => n * 10 + (c - 48)) 0
def centM (l : List Int) : Int := valM ((l.drop (atM l)).take (endM l - atM l)) * 100 + (if l.length = endM l then 0 else (l.getD (endM l + 1) 0 - 48) * 10 + (l.getD (endM l + 2) 0 - 48))
def parseM (l : List Int) : Int × Int :=
  if headBad l = true then (0, 21) else if restBad l (endM l) = true then (0, 21) else if minusBad l = true then (0, 21) else if 15 < endM l - atM l then (0, 22) else if 1000000000000000 < centM l then (0, 22) else (if negB l = true then -centM l else centM l, 0)

theorem takeWhile_len (l : List Int) : ∀ (n : Nat), n ≤ l.length → (∀ i, i < n → isDig (l.getD i 0) = true) → (n < l.length → isDig (l.getD n 0) = false) → (l.takeWhile isDig).length = n := by
  induction l with
  | nil => intro n h _ _; simp at h; simp [h]
  | cons a l ih =>
    intro n h h1 h2
    cases n with
    | zero =>
      have := h2 (by simp)
      simp at this
      simp [List.takeWhile, this]
    | succ n =>
      have h3 := h1 0 (by omega)
      simp at h3
      rw [List.takeWhile_cons, h3]
      simp
      exact ih n (by simpa using h) (fun i hi => by have := h1 (i + 1) (by omega); simpa using this) (fun hn => by have := h2 (by simpa using hn); simpa using this)

theorem end_of {l : List Int} {en : Nat} (h0 : atM l ≤ en) (h : en ≤ l.length) (h1 : ∀ i, atM l ≤ i → i < en → isDig (l.getD i 0) = true) (h2 : en < l.length → isDig (l.getD en 0) = false) : en = endM l := by
  unfold endM
  rw [takeWhile_len (l.drop (atM l)) (en - atM l) (by rw [List.length_drop]; omega)]
  · omega
  · intro i hi
    have := h1 (atM l + i) (by omega) (by omega)
    simpa [List.getD] using this
  · intro hi
    rw [List.length_drop] at hi
    have := h2 (by omega)
    rw [show en = atM l + (en - atM l) by omega] at this
    simpa [List.getD] using this

theorem at_le (l : List Int) : atM l ≤ l.length := by
  unfold atM negB
  cases l with
  | nil => simp
  | cons a l => split <;> simp

theorem ext_size (s : ByteArray) (en : Nat) : (s.extract en s.size).size = s.size - en := by simp

theorem ext_at (s : ByteArray) (en k : Nat) (h : k < (s.extract en s.size).size) (h' : en + k < s.size) : (((s.extract en s.size)[k]'h).toNat : Int) = ((s[en + k]'h').toNat : Int) := by
  congr 2
  show (s.extract en s.size).data[k] = s.data[en + k]
  simp

theorem rest_three {l : List Int} {en : Nat} (h : l.length = en + 3) : restBad l en = !(decide (l.getD (en + 0) 0 = 46) && isDig (l.getD (en + 1) 0) && isDig (l.getD (en + 2) 0) && !(decide (l.getD (en + 1) 0 = 48) && decide (l.getD (en + 2) 0 = 48))) := by
  unfold restBad
  rw [h]
  generalize l.getD (en + 1) 0 = a
  generalize l.getD (en + 2) 0 = b
  rw [Nat.add_zero]
  generalize l.getD en 0 = c
  by_cases h1 : c = 46 <;> by_cases h2 : a = 48 <;> by_cases h3 : b = 48 <;> cases h4 : isDig a <;> cases h5 : isDig b <;> simp [*]

theorem three_list (R : ByteArray) (h : R.size = 3) : R.toList = [R[0], R[1], R[2]] := by
  rw [ByteArray.toList_eq]
  apply List.ext_getElem
  · simp; exact h
  · intro i h1 h2
    simp at h2
    rcases (show i = 0 ∨ i = 1 ∨ i = 2 by omega) with rfl | rfl | rfl <;> simp <;> rfl

theorem three_eq (a b c : UInt8) : ([a, b, c] == [46, 48, 48]) = (decide ((a.toNat : Int) = 46) && decide ((b.toNat : Int) = 48) && decide ((c.toNat : Int) = 48)) := by
  have t : ∀ (x y : UInt8) (n : Nat), y.toNat = n → (x == y) = decide ((x.toNat : Int) = n) := by
    intro x y n hn
    rw [Bool.eq_iff_iff]
    simp
    constructor
    · rintro rfl; omega
    · intro h; exact UInt8.toNat_inj.1 (by omega)
  have t1 := t a 46 46 rfl
  have t2 := t b 48 48 rfl
  have t3 := t c 48 48 rfl
  show ((a == 46) && ((b == 48) && ((c == 48) && true))) = _
  rw [t1, t2, t3]; simp [Bool.and_assoc]

theorem minus_eq {s : ByteArray} {l : List Int} (h : l = strB s) (hA : atM l = 1) : ((s.extract 1 s.size).toList == [48]) = minusBad l := by
  unfold minusBad
  rw [hA]
  have e : (s.extract 1 s.size).toList = s.data.toList.drop 1 := by
    rw [ByteArray.toList_eq]
    apply List.ext_getElem
    · simp
    · intro i h1 h2; simp
  have t : ∀ x : UInt8, (x == 48) = decide ((x.toNat : Int) = 48) := by
    intro x
    rw [Bool.eq_iff_iff]
    simp
    constructor
    · rintro rfl; decide
    · intro h; exact UInt8.toNat_inj.1 (by simp; omega)
  rw [e, h]
  unfold strB
  generalize s.data.toList = u
  match u with
  | [] => rfl
  | [a] => simp
  | [a, b] =>
    have := t b
    show ((b == 48) && true) = _
    rw [this]; simp
  | a :: b :: c :: r => simp

theorem val_step {l : List Int} {A k : Nat} {c v : Int} (hk : A ≤ k) (hl : k < l.length) (hc : l.getD k 0 = c) (hv : v = valM ((l.drop A).take (k - A))) : v * 10 + (c - 48) = valM ((l.drop A).take (k + 1 - A)) := by
  rw [show k + 1 - A = (k - A) + 1 by omega, take_succ_getD (l.drop A) (k - A) (by rw [List.length_drop]; omega)]
  unfold valM at *
  rw [List.foldl_append, ← hv]
  have : (l.drop A)[k - A]?.getD 0 = c := by rw [← hc, List.getElem?_drop, show A + (k - A) = k by omega]; simp [List.getD]
  rw [this]; rfl

theorem ten_step {A k : Nat} {v c : Int} (hk : A ≤ k) (h : v < 10 ^ (k - A)) (hc : 48 ≤ c ∧ c ≤ 57) : v * 10 + (c - 48) < 10 ^ (k + 1 - A) := by
  rw [show k + 1 - A = (k - A) + 1 by omega, Int.pow_succ]
  omega

theorem ten_cap {n : Nat} {v : Int} (h : v < 10 ^ n) (hn : n ≤ 15) : v ≤ 999999999999999 := by
  have h1 : (10 : Nat) ^ n ≤ 10 ^ 15 := Nat.pow_le_pow_right (by decide) hn
  have h2 : ((10 : Int) ^ n) ≤ 10 ^ 15 := by exact_mod_cast h1
  have h3 : (10 : Int) ^ 15 = 1000000000000000 := by decide
  omega

theorem rest_good {l : List Int} {en : Nat} (h : restBad l en = false) (hn : l.length ≠ en) : l.length = en + 3 ∧ (48 ≤ l.getD (en + 1) 0 ∧ l.getD (en + 1) 0 ≤ 57) ∧ (48 ≤ l.getD (en + 2) 0 ∧ l.getD (en + 2) 0 ≤ 57) := by
  unfold restBad at h
  have h1 := of_decide_eq_false h
  have h2 := Classical.not_not.1 (fun hh => h1 ⟨hn, hh⟩)
  exact ⟨h2.1, of_decide_eq_true h2.2.2.1, of_decide_eq_true h2.2.2.2.1⟩

theorem wrap_i64 (n : Int) (h : -9223372036854775808 ≤ n ∧ n ≤ 9223372036854775807) : IntKind.i64.wrap n = n := by
  simp only [IntKind.wrap, IntKind.bits, IntKind.signed]
  simp
  omega

theorem cents_wraps (v x1 x2 : Int) (hv0 : 0 ≤ v) (hv1 : v ≤ 999999999999999) (h1 : 48 ≤ x1 ∧ x1 ≤ 57) (h2 : 48 ≤ x2 ∧ x2 ≤ 57) :
    ∃ y1 y2 z1 z2 N : Int, IntKind.u8.wrap (x1 - 48) = y1 ∧ IntKind.u8.wrap (x2 - 48) = y2 ∧ (IntKind.i64.wrap y1 = y1 ∧ IntKind.i64.wrap y2 = y2) ∧ IntKind.i64.wrap (y1 * 10) = z1 ∧ IntKind.i64.wrap (v * 100 + z1) = z2 ∧ IntKind.i64.wrap (z2 + y2) = N ∧ Hid (N = v * 100 + ((x1 - 48) * 10 + (x2 - 48))) := by
  refine ⟨x1 - 48, x2 - 48, (x1 - 48) * 10, v * 100 + (x1 - 48) * 10, v * 100 + (x1 - 48) * 10 + (x2 - 48), ?_, ?_, ⟨wrap_i64 _ (by omega), wrap_i64 _ (by omega)⟩, wrap_i64 _ (by omega), wrap_i64 _ (by omega), wrap_i64 _ (by omega), by unfold Hid; omega⟩
  · rw [IntKind.wrap_u8']; omega
  · rw [IntKind.wrap_u8']; omega

theorem emp_yes {s : ByteArray} (h : s.size = 0) : s.toList.isEmpty = true := by
  rw [ByteArray.toList_eq]
  simp only [List.isEmpty_iff]
  exact List.eq_nil_of_length_eq_zero (by simpa using h)

theorem emp_no {s : ByteArray} (h : s.size ≠ 0) : s.toList.isEmpty = false := by
  rw [ByteArray.toList_eq]
  cases hh : s.data.toList with
  | nil => exact absurd (by have := congrArg List.length hh; simpa using this) h
  | cons _ _ => rfl

set_option maxHeartbeats 8000000 in
set_option maxRecDepth 100000 in
theorem refParse_any (s : ByteArray) (w : World) (hs : s.size ≤ 140737488355328) :
    Calls Tryd.prog 10 #[.string s] w fun e w' => e = .returned (pairV (parseM (strB s))) ∧ Below w.heap.size w w' := by
  obtain ⟨l, hl⟩ : ∃ l, l = strB s := ⟨_, rfl⟩
  have HLL : Hid (l.length = s.size) := by unfold Hid; rw [hl, strB_len]
  have HAT : Hid (∀ k (h : k < s.size), l.getD k 0 = ((s[k]'h).toNat : Int)) := by intro k h; rw [hl]; exact strB_at s k h
  rw [← hl]
  have HS := hide hl
  clear hl
  obtain ⟨neg, hneg⟩ : ∃ b, b = negB l := ⟨_, rfl⟩
  obtain ⟨A, hA⟩ : ∃ A, A = atM l := ⟨_, rfl⟩
  have HNG := hide hneg
  have HA := hide hA
  have hA1 : A ≤ 1 := by rw [hA]; unfold atM; split <;> omega
  have hA2 : A ≤ s.size := by rw [hA, ← HLL.out]; exact at_le l
  clear hneg hA
  go_enter Tryd.func10, Tryd.ntmps10
  go_upto_region 2 with fail
  go_cut [15] (fun s wx => s = .bool neg ∧ w = wx)
  case first =>
    by_cases h0 : s.size = 0
    · have he := emp_yes h0
      have HV : Hid (neg = false) := by unfold Hid; rw [HNG.out]; unfold negB; rw [List.eq_nil_of_length_eq_zero (HLL.out.trans h0)]; decide
      go_wp2_with fail
      go_meet
      exact ⟨by rw [HV.out], rfl⟩
    · have he := emp_no h0
      have h0' : 0 < s.size := by omega
      have hb0 := byte_lt s 0 h0'
      cases hm : (((s[0]'h0').toNat : Int) == 45) with
      | true =>
        have HV : Hid (neg = true) := by unfold Hid; rw [HNG.out]; unfold negB; rw [HAT.out 0 h0']; simpa using hm
        go_wp2_with fail
        go_meet
        exact ⟨by rw [HV.out], rfl⟩
      | false =>
        have HV : Hid (neg = false) := by unfold Hid; rw [HNG.out]; unfold negB; rw [HAT.out 0 h0']; simpa using hm
        go_wp2_with fail
        go_meet
        exact ⟨by rw [HV.out], rfl⟩
  case rest =>
  obtain ⟨rfl, rfl⟩ := hcut
  go_upto_if 15 with fail
  go_cut [4] (fun s wx => s = .int .i64 A ∧ w = wx)
  case first =>
    cases neg with
    | true =>
      have HV : Hid (A = 1) := by unfold Hid; rw [HA.out]; unfold atM; rw [← HNG.out]; rfl
      go_wp2_with fail
      go_meet
      exact ⟨by rw [HV.out]; rfl, rfl⟩
    | false =>
      have HV : Hid (A = 0) := by unfold Hid; rw [HA.out]; unfold atM; rw [← HNG.out]; rfl
      go_wp2_with fail
      go_meet
      exact ⟨by rw [HV.out]; rfl, rfl⟩
  case rest =>
  obtain ⟨rfl, rfl⟩ := hcut
  go_upto_block 0 with fail
  go_cut [5] (fun e wx => ∃ en : Nat, e = .int .i64 en ∧ A ≤ en ∧ en ≤ s.size ∧ Hid (en = endM l) ∧ Hid (∀ i, A ≤ i → i < en → isDig (l.getD i 0) = true) ∧ w = wx)
  case first =>
    go_wp2_with fail
    go_loop [5] (fun i => ∃ k : Nat, k ≤ s.size ∧ A ≤ k ∧ i = .int .i64 k ∧ Hid (∀ i, A ≤ i → i < k → isDig (l.getD i 0) = true)) (fun i => s.size - (intOf i).toNat)
    case atStart => exact ⟨A, by omega, by omega, rfl, fun i h1 h2 => by omega⟩
    case round =>
      obtain ⟨k, hk, hk1, rfl, HD⟩ := hrel
      by_cases hlt : k < s.size
      · have hcb := byte_lt s k hlt
        have CD := hide (fun w => digit_any ((s[k]'hlt).toNat : Int) w (by omega) (by omega))
        cases hd : isDig ((s[k]'hlt).toNat : Int) with
        | true =>
          have HDN : Hid (∀ i, A ≤ i → i < k + 1 → isDig (l.getD i 0) = true) := by
            intro i h1 h2
            rcases (show i < k ∨ i = k by omega) with h | rfl
            · exact HD.out i h1 h
            · rw [HAT.out i hlt]; exact hd
          rw [hd] at CD
          clear hd
          go_wp2_with (go_at_call 34; refine (CD.out _).mono ?_; rintro e w' ⟨rfl, hww⟩; subst w')
          go_round
          case rel => exact ⟨k + 1, by omega, by omega, by go_num, HDN⟩
          case measure => simp [intOf]; omega
        | false =>
          have HE : Hid (k = endM l) := end_of (by rw [← HA.out]; exact hk1) (by rw [HLL.out]; exact hk) (by rw [← HA.out]; exact HD.out) (fun _ => by rw [HAT.out k hlt]; exact hd)
          rw [hd] at CD
          clear hd
          go_wp2_with (go_at_call 34; refine (CD.out _).mono ?_; rintro e w' ⟨rfl, hww⟩; subst w')
          go_meet
          exact ⟨k, rfl, hk1, hk, HE, HD, rfl⟩
      · have HE : Hid (k = endM l) := end_of (by rw [← HA.out]; exact hk1) (by rw [HLL.out]; exact hk) (by rw [← HA.out]; exact HD.out) (fun hh => absurd hh (by rw [HLL.out]; exact hlt))
        go_wp2_with fail
        go_meet
        exact ⟨k, rfl, hk1, hk, HE, HD, rfl⟩
  case rest =>
  obtain ⟨en, rfl, hen1, hen2, HEN, HDG, rfl⟩ := hcut
  go_upto_region 8 with fail
  obtain ⟨hb, hhb⟩ : ∃ b, b = headBad l := ⟨_, rfl⟩
  have HHB := hide hhb
  clear hhb
  go_cut [46] (fun s wx => s = .bool hb ∧ w = wx)
  case first =>
    by_cases c1 : en = A
    · have c1b : ((en : Int) == A) = true := by simp [c1]
      have HV : Hid (hb = true) := by unfold Hid; rw [HHB.out]; unfold headBad; rw [← HEN.out, ← HA.out]; exact decide_eq_true (.inl c1)
      clear c1
      go_wp2_with fail
      go_meet
      exact ⟨by rw [HV.out], rfl⟩
    · have c1b : ((en : Int) == A) = false := by simp; omega
      have hAs : A < s.size := by omega
      have hbA := byte_lt s A hAs
      cases c2 : (((s[A]'hAs).toNat : Int) == 48) with
      | false =>
        have HV : Hid (hb = false) := by unfold Hid; rw [HHB.out]; unfold headBad; rw [← HEN.out, ← HA.out, HAT.out A hAs]; refine decide_eq_false (fun h => ?_); simp at c2; omega
        go_wp2_with fail
        go_meet
        exact ⟨by rw [HV.out], rfl⟩
      | true =>
        by_cases c3 : A + 1 < en
        · have HV : Hid (hb = true) := by unfold Hid; rw [HHB.out]; unfold headBad; rw [← HEN.out, ← HA.out, HAT.out A hAs]; refine decide_eq_true ?_; simp at c2; omega
          go_wp2_with fail
          go_meet
          exact ⟨by rw [HV.out]; exact congrArg Value.bool (decide_eq_true (by omega)), rfl⟩
        · have HV : Hid (hb = false) := by unfold Hid; rw [HHB.out]; unfold headBad; rw [← HEN.out, ← HA.out, HAT.out A hAs]; refine decide_eq_false (fun h => ?_); simp at c2; omega
          have c3b : decide ((A : Int) + 1 < en) = false := decide_eq_false (by omega)
          go_wp2_with fail
          go_meet
          exact ⟨by rw [HV.out], rfl⟩
  case rest =>
  obtain ⟨rfl, rfl⟩ := hcut
  cases hb with
  | true =>
    have HV : Hid (parseM l = (0, 21)) := by unfold Hid parseM; rw [if_pos HHB.out.symm]
    go_wp2_with fail
    go_ret2
    exact ⟨ret_pair HV.out, Below.refl _ _⟩
  | false =>
  go_upto_region 10 with fail
  obtain ⟨R, hR⟩ : ∃ R, R = s.extract en s.size := ⟨_, rfl⟩
  have hRs : R.size = s.size - en := by rw [hR]; exact ext_size s en
  have HRA : Hid (∀ k (h : k < R.size), ((R[k]'h).toNat : Int) = l.getD (en + k) 0) := by
    intro k h
    subst hR
    have h' : en + k < s.size := by rw [ext_size] at h; omega
    rw [ext_at s en k h h', HAT.out (en + k) h']
  rw [← hR]
  have HRR := hide hR
  clear hR
  obtain ⟨rb, hrb⟩ : ∃ b, b = restBad l en := ⟨_, rfl⟩
  have HRB := hide hrb
  clear hrb
  go_cut [74] (fun s wx => s = .bool rb ∧ w = wx)
  case first =>
    by_cases c1 : R.size = 0
    · have he := emp_yes c1
      have HV : Hid (rb = false) := by unfold Hid; rw [HRB.out]; unfold restBad; refine decide_eq_false (fun h => h.1 ?_); rw [HLL.out]; omega
      go_wp2_with fail
      go_meet
      exact ⟨by rw [HV.out], rfl⟩
    · have he := emp_no c1
      by_cases c2 : R.size = 3
      · have k0 : 0 < R.size := by omega
        have k1 : 1 < R.size := by omega
        have k2 : 2 < R.size := by omega
        have b0 := byte_lt R 0 k0
        have b1 := byte_lt R 1 k1
        have b2 := byte_lt R 2 k2
        have c2b : ((R.size : Int) != 3) = false := by simp; omega
        have HV : Hid (rb = !(decide (((R[0]'k0).toNat : Int) = 46) && isDig ((R[1]'k1).toNat : Int) && isDig ((R[2]'k2).toNat : Int) && !(decide (((R[1]'k1).toNat : Int) = 48) && decide (((R[2]'k2).toNat : Int) = 48)))) := by
          unfold Hid
          rw [HRB.out, HRA.out 0 k0, HRA.out 1 k1, HRA.out 2 k2]
          exact rest_three (HLL.out.trans (by omega))
        have HT : Hid (R.toList = [R[0]'k0, R[1]'k1, R[2]'k2]) := three_list R c2
        obtain ⟨x0, e0⟩ : ∃ x, ((R[0]'k0).toNat : Int) = x := ⟨_, rfl⟩
        obtain ⟨x1, e1⟩ : ∃ x, ((R[1]'k1).toNat : Int) = x := ⟨_, rfl⟩
        obtain ⟨x2, e2⟩ : ∃ x, ((R[2]'k2).toNat : Int) = x := ⟨_, rfl⟩
        have HZ : Hid ((R.toList == [46, 48, 48]) = (decide (x0 = 46) && decide (x1 = 48) && decide (x2 = 48))) := by
          unfold Hid; rw [HT.out, ← e0, ← e1, ← e2]; exact three_eq _ _ _
        rw [e0, e1, e2] at HV
        have q1 : 0 ≤ x1 ∧ x1 ≤ 255 := by omega
        have q2 : 0 ≤ x2 ∧ x2 ≤ 255 := by omega
        have C1 := hide (fun w => digit_any x1 w q1.1 q1.2)
        have C2 := hide (fun w => digit_any x2 w q2.1 q2.2)
        clear b0 b1 b2
        cases d0 : (x0 != 46) with
        | true =>
          have HW : Hid (rb = true) := by unfold Hid; rw [HV.out]; simp at d0; simp [d0]
          go_wp2_with fail
          go_meet
          exact ⟨by rw [HW.out], rfl⟩
        | false =>
          cases d1 : isDig x1 with
          | false =>
            rw [d1] at C1
            have HW : Hid (rb = true) := by unfold Hid; rw [HV.out, d1]; simp
            clear d1
            go_wp2_with (go_at_call 34; refine (C1.out _).mono ?_; rintro e w' ⟨rfl, hww⟩; subst w')
            go_meet
            exact ⟨by rw [HW.out], rfl⟩
          | true =>
            rw [d1] at C1
            cases d2 : isDig x2 with
            | false =>
              rw [d2] at C2
              have HW : Hid (rb = true) := by unfold Hid; rw [HV.out, d2]; simp
              clear d1 d2
              go_wp2_with (go_at_call 34; first | (refine (C1.out _).mono ?_; rintro e w' ⟨rfl, hww⟩; subst w') | (refine (C2.out _).mono ?_; rintro e w' ⟨rfl, hww⟩; subst w'))
              go_meet
              exact ⟨by rw [HW.out], rfl⟩
            | true =>
              rw [d2] at C2
              have HW : Hid (rb = (decide (x1 = 48) && decide (x2 = 48))) := by unfold Hid; rw [HV.out, d1, d2]; simp at d0; simp [d0]
              have HZ' : Hid ((R.toList == [46, 48, 48]) = rb) := by unfold Hid; rw [HW.out, HZ.out]; simp at d0; simp [d0]
              clear d1 d2
              go_wp2_with (go_at_call 34; first | (refine (C1.out _).mono ?_; rintro e w' ⟨rfl, hww⟩; subst w') | (refine (C2.out _).mono ?_; rintro e w' ⟨rfl, hww⟩; subst w'))
              go_meet
              exact ⟨by rw [← HZ'.out], rfl⟩
      · have c2b : ((R.size : Int) != 3) = true := by simp; omega
        have HV : Hid (rb = true) := by unfold Hid; rw [HRB.out]; unfold restBad; refine decide_eq_true ⟨by rw [HLL.out]; omega, fun h => ?_⟩; have := h.1; rw [HLL.out] at this; omega
        go_wp2_with fail
        go_meet
        exact ⟨by rw [HV.out], rfl⟩
  case rest =>
  obtain ⟨rfl, rfl⟩ := hcut
  cases rb with
  | true =>
    have HV : Hid (parseM l = (0, 21)) := by unfold Hid parseM; rw [if_neg (by rw [← HHB.out]; decide), if_pos (by rw [← HEN.out]; exact HRB.out.symm)]
    go_wp2_with fail
    go_ret2
    exact ⟨ret_pair HV.out, Below.refl _ _⟩
  | false =>
  go_upto_region 12 with fail
  obtain ⟨mb, hmb⟩ : ∃ b, b = minusBad l := ⟨_, rfl⟩
  have HMB := hide hmb
  clear hmb
  go_cut [81] (fun s wx => s = .bool mb ∧ w = wx)
  case first =>
    by_cases c1 : A = 1
    · have c1b : ((A : Int) == 1) = true := by simp [c1]
      have h1s : 1 ≤ s.size := by omega
      have HV : Hid (((s.extract 1 s.size).toList == [48]) = mb) := by unfold Hid; rw [HMB.out]; exact minus_eq HS.out (HA.out.symm.trans c1)
      clear c1
      go_wp2_with fail
      go_meet
      exact ⟨by rw [← HV.out], rfl⟩
    · have c1b : ((A : Int) == 1) = false := by simp; omega
      have HV : Hid (mb = false) := by unfold Hid; rw [HMB.out]; unfold minusBad; refine decide_eq_false (fun h => c1 (HA.out.trans h.1))
      go_wp2_with fail
      go_meet
      exact ⟨by rw [HV.out], rfl⟩
  case rest =>
  obtain ⟨rfl, rfl⟩ := hcut
  cases mb with
  | true =>
    have HV : Hid (parseM l = (0, 21)) := by unfold Hid parseM; rw [if_neg (by rw [← HHB.out]; decide), if_neg (by rw [← HEN.out, ← HRB.out]; decide), if_pos HMB.out.symm]
    go_wp2_with fail
    go_ret2
    exact ⟨ret_pair HV.out, Below.refl _ _⟩
  | false =>
  by_cases hfar : 15 < en - A
  · have HV : Hid (parseM l = (0, 22)) := by unfold Hid parseM; rw [if_neg (by rw [← HHB.out]; decide), if_neg (by rw [← HEN.out, ← HRB.out]; decide), if_neg (by rw [← HMB.out]; decide), if_pos (by rw [← HEN.out, ← HA.out]; exact hfar)]
    have hfi : (15 : Int) < (en : Int) - A := by omega
    go_wp2_with fail
    go_ret2
    exact ⟨ret_pair HV.out, Below.refl _ _⟩
  · have HP : Hid (parseM l = if 1000000000000000 < centM l then (0, 22) else (if neg = true then -centM l else centM l, 0)) := by
      unfold Hid parseM
      rw [if_neg (by rw [← HHB.out]; decide), if_neg (by rw [← HEN.out, ← HRB.out]; decide), if_neg (by rw [← HMB.out]; decide), if_neg (by rw [← HEN.out, ← HA.out]; exact hfar), ← HNG.out]
    have hfi : decide ((15 : Int) < (en : Int) - A) = false := decide_eq_false (by omega)
    go_wp2_with fail
    go_loop [7, 8] (fun n i => ∃ (k : Nat) (v : Int), A ≤ k ∧ k ≤ en ∧ i = .int .i64 k ∧ n = .int .i64 v ∧ 0 ≤ v ∧ v ≤ 999999999999999 ∧ Hid (v < 10 ^ (k - A)) ∧ Hid (v = valM ((l.drop A).take (k - A)))) (fun _ i => en - (intOf i).toNat)
    case atStart => exact ⟨A, 0, by omega, by omega, rfl, rfl, by omega, by omega, by unfold Hid; simp, by unfold Hid; simp [valM]⟩
    case round =>
      obtain ⟨k, v, hk1, hk2, rfl, rfl, hv0, hv1, HVB, HVV⟩ := hrel
      by_cases hlt : k < en
      · have hks : k < s.size := by omega
        obtain ⟨c, hc⟩ : ∃ c, ((s[k]'hks).toNat : Int) = c := ⟨_, rfl⟩
        have hcd : 48 ≤ c ∧ c ≤ 57 := by
          have := HDG.out k hk1 hlt
          rw [HAT.out k hks, hc] at this
          exact of_decide_eq_true this
        have HN := hide (val_step (l := l) (A := A) (k := k) hk1 (by rw [HLL.out]; exact hks) (by rw [HAT.out k hks, hc]) HVV.out)
        have HNB := hide (ten_step (k := k) (A := A) hk1 HVB.out hcd)
        have hvn : v * 10 + (c - 48) ≤ 999999999999999 := ten_cap HNB.out (by omega)
        obtain ⟨hc1, hc2⟩ := hcd
        go_wp2_with fail
        go_round
        case rel => exact ⟨k + 1, v * 10 + (c - 48), by omega, by omega, by go_num, rfl, by omega, by omega, HNB, HN⟩
        case measure => simp [intOf]; omega
      · have hke : k = en := by omega
        subst hke
        have HB0 := hide (Below.refl w.heap.size w)
        by_cases c1 : R.size = 0
        · have he := emp_yes c1
          have HC : Hid (centM l = v * 100) := by unfold Hid centM; rw [← HEN.out, ← HA.out, ← HVV.out, if_pos (by rw [HLL.out]; omega)]; omega
          by_cases ho : 1000000000000000 < v * 100
          · have HV : Hid (parseM l = (0, 22)) := by unfold Hid; rw [HP.out, if_pos (by rw [HC.out]; exact ho)]
            go_wp2_with fail
            go_ret2
            exact ⟨ret_pair HV.out, HB0.out⟩
          · have hob : decide (1000000000000000 < v * 100) = false := decide_eq_false ho
            cases neg with
            | true =>
              have HV : Hid (parseM l = (-(v * 100), 0)) := by unfold Hid; rw [HP.out, if_neg (by rw [HC.out]; exact ho), HC.out]; rfl
              have ha : A = 1 := by rw [HA.out]; unfold atM; rw [← HNG.out]; rfl
              have hab : ((A : Int) == 1) = true := by simp [ha]
              clear ha
              go_wp2_with fail
              go_ret2
              exact ⟨ret_pair HV.out, HB0.out⟩
            | false =>
              have HV : Hid (parseM l = (v * 100, 0)) := by unfold Hid; rw [HP.out, if_neg (by rw [HC.out]; exact ho), HC.out]; rfl
              have ha : A = 0 := by rw [HA.out]; unfold atM; rw [← HNG.out]; rfl
              have hab : ((A : Int) == 1) = false := by simp [ha]
              clear ha
              go_wp2_with fail
              go_ret2
              exact ⟨ret_pair HV.out, HB0.out⟩
        · have he := emp_no c1
          obtain ⟨h3, hd1, hd2⟩ := rest_good HRB.out.symm (by rw [HLL.out]; omega)
          rw [HLL.out] at h3
          have k1 : 1 < R.size := by omega
          have k2 : 2 < R.size := by omega
          rw [← HRA.out 1 k1] at hd1
          rw [← HRA.out 2 k2] at hd2
          obtain ⟨x1, e1⟩ : ∃ x, ((R[1]'k1).toNat : Int) = x := ⟨_, rfl⟩
          obtain ⟨x2, e2⟩ : ∃ x, ((R[2]'k2).toNat : Int) = x := ⟨_, rfl⟩
          have HC : Hid (centM l = v * 100 + ((x1 - 48) * 10 + (x2 - 48))) := by unfold Hid centM; rw [← HEN.out, ← HA.out, ← HVV.out, if_neg (by rw [HLL.out]; omega), ← HRA.out 1 k1, ← HRA.out 2 k2, e1, e2]
          rw [e1] at hd1
          rw [e2] at hd2
          obtain ⟨y1, y2, z1, z2, N, hw1, hw2, ⟨hw3, hw3'⟩, hw4, hw5, hw6, HNN⟩ := cents_wraps v x1 x2 hv0 hv1 hd1 hd2
          have hN0 : 0 ≤ N := by have := HNN.out; omega
          have hN1 : N ≤ 999999999999999999 := by have := HNN.out; omega
          have HCN : Hid (centM l = N) := by unfold Hid; rw [HC.out, HNN.out]
          have k1i : (1 : Int) < R.size := by omega
          have k2i : (2 : Int) < R.size := by omega
          by_cases ho : 1000000000000000 < N
          · have HV : Hid (parseM l = (0, 22)) := by unfold Hid; rw [HP.out, if_pos (by rw [HCN.out]; exact ho)]
            go_wp2_with fail
            go_region
            all_goals (try go_wp2_with fail)
            all_goals go_ret2
            all_goals exact ⟨ret_pair HV.out, HB0.out.drew⟩
          · have hob : decide (1000000000000000 < N) = false := decide_eq_false ho
            cases neg with
            | true =>
              have HV : Hid (parseM l = (-N, 0)) := by unfold Hid; rw [HP.out, if_neg (by rw [HCN.out]; exact ho), HCN.out]; rfl
              have ha : A = 1 := by rw [HA.out]; unfold atM; rw [← HNG.out]; rfl
              have hab : ((A : Int) == 1) = true := by simp [ha]
              clear ha
              go_wp2_with fail
              go_region
              all_goals (try go_wp2_with fail)
              all_goals go_ret2
              all_goals exact ⟨ret_pair HV.out, HB0.out.drew⟩
            | false =>
              have HV : Hid (parseM l = (N, 0)) := by unfold Hid; rw [HP.out, if_neg (by rw [HCN.out]; exact ho), HCN.out]; rfl
              have ha : A = 0 := by rw [HA.out]; unfold atM; rw [← HNG.out]; rfl
              have hab : ((A : Int) == 1) = false := by simp [ha]
              clear ha
              go_wp2_with fail
              go_region
              all_goals (try go_wp2_with fail)
              all_goals go_ret2
              all_goals exact ⟨ret_pair HV.out, HB0.out.drew⟩
end Go.Proofs.YthpbadnedhjncaaDoor
