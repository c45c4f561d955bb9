/- What the walks say of a slice of integers of whatever kind: where its cells lie, what they hold; small laws about that. -/
import Derived.Test.YthnjmfkiohgkkaaGreatDoorProg
import Derived.WalkKit
import Derived.WalkSpells
import Derived.WalkLawsBesides
import Derived.Laws.BytesArg
import Derived.Deep.DeepCutAuto
import Derived.Deep.CutBlock
import Derived.Test.YthnjmfkiohgkkaaGreatDoorShelf
import Derived.Lib.IndexLaws
namespace Go.Proofs.YthnjmfkiohgkkaaGreatDoor.Mo
open Go.RowKit

theorem hide {p : Prop} (h : p) : Hid p := h

/-- The cells from an address on hold these numbers. -/
structure Nums (q : IntKind) (w : World) (a : Option Addr) (zs : List Int) : Prop where
  cells : zs ≠ [] → ∃ b off, a = some ⟨b, off, none⟩ ∧ ∀ i, i < zs.length → w.cell? ⟨b, off + i, none⟩ = some (.int q (zs.getD i 0))

theorem Nums.lt {q : IntKind} {w : World} {b off : Nat} {zs : List Int} (h : ∀ i, i < zs.length → w.cell? ⟨b, off + i, none⟩ = some (.int q (zs.getD i 0))) (hz : zs ≠ []) : b < w.heap.size := by
  have h0 := h 0 (by cases zs with | nil => exact absurd rfl hz | cons _ _ => simp)
  exact World.block_lt_of_cell? w ⟨b, off + 0, none⟩ h0

theorem Nums.below {q : IntKind} {B : Nat} {w w' : World} {a : Option Addr} {zs : List Int} (h : Nums q w a zs) (hb : Below B w w') (hB : w.heap.size ≤ B) : Nums q w' a zs := by
  refine ⟨fun hz => ?_⟩
  obtain ⟨b, off, rfl, hc⟩ := h.cells hz
  have hlt := Nums.lt hc hz
  exact ⟨b, off, rfl, fun i hi => (hb.cell (p := ⟨b, off + i, none⟩) (by simp; omega)).trans (hc i hi)⟩

theorem Nums.drew {q : IntKind} {w : World} {a : Option Addr} {zs : List Int} (h : Nums q w a zs) : Nums q w.drew a zs := ⟨h.cells⟩

theorem take_succ_getD (zs : List Int) (k : Nat) (h : k < zs.length) : zs.take (k + 1) = zs.take k ++ [zs[k]?.getD 0] := by
  rw [List.take_succ_eq_append_getElem h]; simp [h]

/-- One number of a row, by a name of its own. -/
theorem Nums.get {q : IntKind} {B : Nat} {w wr : World} {a : Option Addr} {zs : List Int} {len k : Nat} (h : Nums q w a zs) (hl : zs.length = len) (hb : Below B w wr) (hk : k < len) (hB : w.heap.size ≤ B := by omega) :
    ∃ b off c, a = some ⟨b, off, none⟩ ∧ wr.cell? ⟨b, off + k, none⟩ = some (.int q c) ∧ Hid (zs.take (k + 1) = zs.take k ++ [c]) ∧ Hid (c = zs.getD k 0) ∧ Hid (c ∈ zs) := by
  have hne : zs ≠ [] := by intro e; subst e; simp at hl; omega
  obtain ⟨b, off, rfl, hc⟩ := h.cells hne
  have hlt := Nums.lt hc hne
  have hkl : k < zs.length := by omega
  refine ⟨b, off, zs[k]?.getD 0, rfl, (hb.cell (p := ⟨b, off + k, none⟩) (by simp; omega)).trans ?_, take_succ_getD zs k hkl, by simp [Hid, List.getD], by simp [Hid, hkl]⟩
  simpa using hc k hkl

theorem ret_bool {a b : Bool} (h : a = b) : Ending.returned (.bool a) = .returned (.bool b) := by rw [h]

end Go.Proofs.YthnjmfkiohgkkaaGreatDoor.Mo

namespace Go.Proofs.YthnjmfkiohgkkaaGreatDoor.Mo
open Go.RowKit

/-- May an amount be? -/
def may (m : Int) : Bool := decide (-1000000000000000 ≤ m ∧ m ≤ 1000000000000000)

theorem may_mk {m : Int} (h : -1000000000000000 ≤ m ∧ m ≤ 1000000000000000) : may m = true := decide_eq_true h
theorem may_not {m : Int} (h : m < -1000000000000000 ∨ 1000000000000000 < m) : may m = false := decide_eq_false (by omega)

/-- An amount and an error. -/
def pairV (r : Int × Int) : Value := .tuple #[.int .i64 r.1, .int .i64 r.2]

theorem ret_pair {x e : Int} {r : Int × Int} (h : r = (x, e)) : Ending.returned (.tuple #[.int .i64 x, .int .i64 e]) = .returned (pairV r) := by rw [h]; rfl

/-- P2.2: the exact sum. -/
def sumM (l : List Int) : Int × Int := if (∀ z ∈ l, may z = true) ∧ may l.sum = true then (l.sum, 0) else (0, 22)

end Go.Proofs.YthnjmfkiohgkkaaGreatDoor.Mo

namespace Go.Proofs.YthnjmfkiohgkkaaGreatDoor.Mo
open Go.RowKit

theorem ret_i64 {a b : Int} (h : a = b) : Ending.returned (.int .i64 a) = .returned (.int .i64 b) := by rw [h]

def checkM (m : Int) : Int := if may m then 0 else 22

def cmpM (a b : Int) : Int := if a < b then -1 else if b < a then 1 else 0

def clampM (m l u : Int) : Int × Int :=
  if may m = false ∨ may l = false ∨ may u = false then (0, 22) else if u < l then (0, 1) else if m < l then (l, 0) else if u < m then (u, 0) else (m, 0)

end Go.Proofs.YthnjmfkiohgkkaaGreatDoor.Mo

namespace Go.Proofs.YthnjmfkiohgkkaaGreatDoor.Mo
open Go.RowKit

theorem check_any (m : Int) (w : World) : Calls Tryz.prog 171 #[.int .i64 m] w fun e w' => e = .returned (.int .i64 (checkM m)) ∧ w' = w := by
  by_cases h1 : m < -1000000000000000
  · have HV : Hid (checkM m = 22) := by unfold Hid checkM may; simp; omega
    go_enter Tryz.func171, Tryz.ntmps171
    go_wp2
    go_ret
    exact ⟨ret_i64 HV.out.symm, rfl⟩
  · by_cases h2 : 1000000000000000 < m
    · have HV : Hid (checkM m = 22) := by unfold Hid checkM may; simp; omega
      go_enter Tryz.func171, Tryz.ntmps171
      go_wp2
      go_ret
      exact ⟨ret_i64 HV.out.symm, rfl⟩
    · have HV : Hid (checkM m = 0) := by unfold Hid checkM may; simp; omega
      go_enter Tryz.func171, Tryz.ntmps171
      go_wp2
      go_ret
      exact ⟨ret_i64 HV.out.symm, rfl⟩

end Go.Proofs.YthnjmfkiohgkkaaGreatDoor.Mo

namespace Go.Proofs.YthnjmfkiohgkkaaGreatDoor.Mo
open Go.RowKit

theorem checkM_true {m : Int} (h : may m = true) : checkM m = 0 := by unfold checkM; rw [h]; rfl
theorem checkM_false {m : Int} (h : may m = false) : checkM m = 22 := by unfold checkM; rw [h]; rfl

end Go.Proofs.YthnjmfkiohgkkaaGreatDoor.Mo

namespace Go.Proofs.YthnjmfkiohgkkaaGreatDoor.Mo
open Go.RowKit

/-- A number in decimal, the highest digit first. -/
def decD : Nat → Int → List Int
  | 0, n => [48 + n]
  | f + 1, n => if n < 10 then [48 + n] else decD f (n / 10) ++ [48 + n % 10]

/-- What is still to come ahead. -/
def decAhead (f : Nat) (m : Int) : List Int := if m = 0 then [] else decD f m

end Go.Proofs.YthnjmfkiohgkkaaGreatDoor.Mo

namespace Go.Proofs.YthnjmfkiohgkkaaGreatDoor.Mo
open Go.RowKit

/-- The one form of a number of cents from 0 on. -/
def centsB (m : Int) : List Int := decD 20 (m / 100) ++ (if m % 100 = 0 then [] else [46, 48 + m % 100 / 10, 48 + m % 10])

/-- The one form. -/
def textM (m : Int) : List Int := if m < 0 then 45 :: centsB (-m) else centsB m

/-- P2.1. -/
def printM (m : Int) : List Int × Int := if may m = true then (textM m, 0) else ([], 22)

end Go.Proofs.YthnjmfkiohgkkaaGreatDoor.Mo

namespace Go.Proofs.YthnjmfkiohgkkaaGreatDoor.Mo
open Go.RowKit

/-- A text's bytes. -/
def strB (s : ByteArray) : List Int := s.data.toList.map fun b => (b.toNat : Int)

theorem strB_len (s : ByteArray) : (strB s).length = s.size := by simp [strB]

theorem strB_at (s : ByteArray) (k : Nat) (h : k < s.size) : (strB s).getD k 0 = ((s[k]'h).toNat : Int) := by
  have hl : k < (strB s).length := by rw [strB_len]; exact h
  simp only [List.getD, List.getElem?_eq_getElem hl, Option.getD_some]
  simp [strB]
  rfl

theorem byte_lt (s : ByteArray) (k : Nat) (h : k < s.size) : (s[k]'h).toNat ≤ 255 := by have := (s[k]'h).toNat_lt; omega

def isDig (c : Int) : Bool := decide (48 ≤ c ∧ c ≤ 57)

end Go.Proofs.YthnjmfkiohgkkaaGreatDoor.Mo

namespace Go.Proofs.YthnjmfkiohgkkaaGreatDoor.Mo
open Go.RowKit

def negB (l : List Int) : Bool := decide (l.getD 0 0 = 45)
/-- Where the digits begin. -/
def atM (l : List Int) : Nat := if negB l = true then 1 else 0
/-- Where they end. -/
def endM (l : List Int) : Nat := atM l + ((l.drop (atM l)).takeWhile isDig).length
def headBad (l : List Int) : Bool := decide (endM l = atM l ∨ (l.getD (atM l) 0 = 48 ∧ atM l + 1 < endM l))
def restBad (l : List Int) (en : Nat) : Bool := decide (l.length ≠ en ∧ ¬ (l.length = en + 3 ∧ l.getD en 0 = 46 ∧ isDig (l.getD (en + 1) 0) = true ∧ isDig (l.getD (en + 2) 0) = true ∧ ¬ (l.getD (en + 1) 0 = 48 ∧ l.getD (en + 2) 0 = 48)))
def minusBad (l : List Int) : Bool := decide (atM l = 1 ∧ l.length = 2 ∧ l.getD 1 0 = 48)
def valM (l : List Int) : Int := l.foldl (fun n c => n * 10 + (c - 48)) 0
def centM (l : List Int) : Int := valM ((l.drop (atM l)).take (endM l - atM l)) * 100 + (if l.length = endM l then 0 else (l.getD (endM l + 1) 0 - 48) * 10 + (l.getD (endM l + 2) 0 - 48))
def parseM (l : List Int) : Int × Int :=
  if headBad l = true then (0, 21) else if restBad l (endM l) = true then (0, 21) else if minusBad l = true then (0, 21) else if 15 < endM l - atM l then (0, 22) else if 1000000000000000 < centM l then (0, 22) else (if negB l = true then -centM l else centM l, 0)

theorem at_le (l : List Int) : atM l ≤ l.length := by
  unfold atM negB
  cases l with
  | nil => simp
  | cons a l => split <;> simp

theorem wrap_i64 (n : Int) (h : -9223372036854775808 ≤ n ∧ n ≤ 9223372036854775807) : IntKind.i64.wrap n = n := by
  simp only [IntKind.wrap, IntKind.bits, IntKind.signed]
  simp
  omega

theorem emp_yes {s : ByteArray} (h : s.size = 0) : s.toList.isEmpty = true := by
  rw [ByteArray.toList_eq]
  simp only [List.isEmpty_iff]
  exact List.eq_nil_of_length_eq_zero (by simpa using h)

theorem emp_no {s : ByteArray} (h : s.size ≠ 0) : s.toList.isEmpty = false := by
  rw [ByteArray.toList_eq]
  cases hh : s.data.toList with
  | nil => exact absurd (by have := congrArg List.length hh; simpa using this) h
  | cons _ _ => rfl

end Go.Proofs.YthnjmfkiohgkkaaGreatDoor.Mo

namespace Go.Proofs.YthnjmfkiohgkkaaGreatDoor.Mo
open Go.RowKit

def allDig (l : List Int) : Bool := l.all isDig

theorem all_of {l : List Int} (h : ∀ i, i < l.length → isDig (l.getD i 0) = true) : allDig l = true := by
  unfold allDig
  rw [List.all_eq_true]
  intro x hx
  obtain ⟨i, hi, rfl⟩ := List.getElem_of_mem hx
  have := h i hi
  simpa [List.getD, hi] using this

theorem of_all {l : List Int} (h : allDig l = true) : ∀ i, i < l.length → isDig (l.getD i 0) = true := by
  intro i hi
  unfold allDig at h
  rw [List.all_eq_true] at h
  exact h _ (by simp [List.getD, hi])

theorem not_all {l : List Int} {k : Nat} (hk : k < l.length) (h : isDig (l.getD k 0) = false) : allDig l = false := by
  cases ha : allDig l with
  | false => rfl
  | true => have := of_all ha k hk; rw [h] at this; cases this

set_option maxHeartbeats 400000 in
theorem areDigits_any (s : ByteArray) (w : World) (hs : s.size ≤ 140737488355328) : Calls Tryz.prog 186 #[.string s] w fun e w' => e = .returned (.bool (allDig (strB s))) ∧ w' = w := by
  have HLL := hide (strB_len s)
  have HAT := hide (strB_at s)
  generalize hl : strB s = l at *
  have HS := hide hl
  clear hl
  go_enter Tryz.func186, Tryz.ntmps186
  go_wp2
  go_loop [6] (fun i => ∃ k : Nat, k ≤ s.size ∧ i = .int .i64 k ∧ Hid (∀ i, i < k → isDig (l.getD i 0) = true)) (fun i => s.size - (intOf i).toNat)
  case atStart => exact ⟨0, by omega, rfl, fun i h => by omega⟩
  case round =>
    obtain ⟨k, hk, rfl, HD⟩ := hrel
    by_cases hlt : k < s.size
    · have hcb := byte_lt s k hlt
      have HK := hide (HAT.out k hlt)
      by_cases h1 : ((s[k]'hlt).toNat : Int) < 48
      · have HV : Hid (allDig l = false) := not_all (k := k) (by rw [HLL.out]; exact hlt) (by rw [HK.out]; exact decide_eq_false (by omega))
        go_wp2_with fail
        go_ret
        exact ⟨ret_bool HV.out.symm, rfl⟩
      · have h1b : decide (((s[k]'hlt).toNat : Int) < 48) = false := decide_eq_false h1
        by_cases h2 : (57 : Int) < (s[k]'hlt).toNat
        · have HV : Hid (allDig l = false) := not_all (k := k) (by rw [HLL.out]; exact hlt) (by rw [HK.out]; exact decide_eq_false (by omega))
          go_wp2_with fail
          go_ret
          exact ⟨ret_bool HV.out.symm, rfl⟩
        · have h2b : decide ((57 : Int) < (s[k]'hlt).toNat) = false := decide_eq_false h2
          have HDN : Hid (∀ i, i < k + 1 → isDig (l.getD i 0) = true) := by
            intro i hi
            rcases (show i < k ∨ i = k by omega) with h | rfl
            · exact HD.out i h
            · rw [HK.out]; exact decide_eq_true (by omega)
          go_wp2_with fail
          go_round
          case rel => exact ⟨k + 1, by omega, by go_num, HDN⟩
          case measure => simp [intOf]; omega
    · have HV : Hid (allDig l = true) := all_of (fun i hi => HD.out i (by rw [HLL.out] at hi; omega))
      go_wp2_with fail
      go_ret
      exact ⟨ret_bool HV.out.symm, rfl⟩

theorem val_snoc (l : List Int) (c : Int) : valM (l ++ [c]) = valM l * 10 + (c - 48) := by unfold valM; simp

theorem take_snoc {l : List Int} {k : Nat} (hk : k < l.length) : l.take (k + 1) = l.take k ++ [l.getD k 0] := by
  rw [List.take_add_one]; simp [List.getD, hk]

theorem ten_pow_le {k : Nat} (h : k ≤ 14) : (10 : Int) ^ k ≤ 100000000000000 := by
  have : (10 : Nat) ^ k ≤ 10 ^ 14 := Nat.pow_le_pow_right (by decide) h
  have e : ((10 ^ k : Nat) : Int) = (10 : Int) ^ k := by simp
  have e2 : (10 : Nat) ^ 14 = 100000000000000 := by decide
  omega

set_option maxHeartbeats 400000 in
theorem number_any (s : ByteArray) (w : World) (hs : s.size ≤ 14) (hd : allDig (strB s) = true) : Calls Tryz.prog 170 #[.string s] w fun e w' => e = .returned (.int .i64 (valM (strB s))) ∧ w' = w := by
  have HLL := hide (strB_len s)
  have HAT := hide (strB_at s)
  have HD := hide (of_all hd)
  clear hd
  generalize hl : strB s = l at *
  have HS := hide hl
  clear hl
  go_enter Tryz.func170, Tryz.ntmps170
  go_wp2
  go_loop [3, 7] (fun x i => ∃ (k : Nat) (n : Int), k ≤ s.size ∧ i = .int .i64 k ∧ x = .int .i64 n ∧ 0 ≤ n ∧ n ≤ 100000000000000 ∧ Hid (n < 10 ^ k) ∧ Hid (n = valM (l.take k))) (fun _ i => s.size - (intOf i).toNat)
  case atStart => exact ⟨0, 0, by omega, rfl, rfl, by omega, by omega, by simp [Hid], by simp [Hid, valM]⟩
  case round =>
    obtain ⟨k, n, hk, rfl, rfl, hn0, hn1, HP, HN⟩ := hrel
    by_cases hlt : k < s.size
    · have hcb := byte_lt s k hlt
      have HK := hide (HAT.out k hlt)
      have hdg : 48 ≤ ((s[k]'hlt).toNat : Int) ∧ ((s[k]'hlt).toNat : Int) ≤ 57 := by
        have := HD.out k (by rw [HLL.out]; exact hlt)
        rw [HK.out] at this
        exact of_decide_eq_true this
      have hp := HP.out
      have hp13 := ten_pow_le (k := k + 1) (by omega)
      have hpe : (10 : Int) ^ (k + 1) = 10 ^ k * 10 := Int.pow_succ _ _
      have HNN : Hid (n * 10 + (((s[k]'hlt).toNat : Int) - 48) = valM (l.take (k + 1))) := by
        unfold Hid; rw [take_snoc (by rw [HLL.out]; exact hlt), val_snoc, ← HN.out, HK.out]
      have HPN : Hid (n * 10 + (((s[k]'hlt).toNat : Int) - 48) < 10 ^ (k + 1)) := by unfold Hid; omega
      have hle : n * 10 + (((s[k]'hlt).toNat : Int) - 48) ≤ 100000000000000 := by omega
      clear hp hp13 hpe
      go_wp2_with fail
      go_round
      case rel => exact ⟨k + 1, n * 10 + (((s[k]'hlt).toNat : Int) - 48), by omega, by go_num, by go_num, by omega, by omega, HPN, HNN⟩
      case measure => simp [intOf]; omega
    · have HV : Hid (n = valM l) := by have := HN.out; rwa [List.take_of_length_le (by rw [HLL.out]; omega)] at this
      go_wp2_with fail
      go_ret
      exact ⟨ret_i64 HV.out, rfl⟩

theorem bytes_map (s : ByteArray) : strB s = s.toList.map fun b => (b.toNat : Int) := by unfold strB; rw [ByteArray.toList_eq]

theorem eq_const (s : ByteArray) (cs : List UInt8) : (s.toList == cs) = decide (strB s = cs.map fun b => (b.toNat : Int)) := by
  rw [bytes_map]
  by_cases h : s.toList = cs
  · rw [h]; simp
  · rw [decide_eq_false]
    · simpa using h
    · intro hh
      apply h
      exact (List.map_inj_right (fun a b hab => by
        have : a.toNat = b.toNat := Int.ofNat_inj.1 hab
        exact UInt8.toNat_inj.mp this)).1 hh

def wholeB (l : List Int) : Bool := decide (l = [48]) || (decide (l ≠ []) && (decide (l.getD 0 0 ≠ 48) && allDig l))
def centsOk (l : List Int) : Bool := decide (l.length = 2) && (decide (l ≠ [48, 48]) && allDig l)

set_option maxHeartbeats 400000 in
theorem isWhole_any (s : ByteArray) (w : World) (hs : s.size ≤ 140737488355328) : Calls Tryz.prog 168 #[.string s] w fun e w' => e = .returned (.bool (wholeB (strB s))) ∧ w' = w := by
  have CD := hide (fun w => areDigits_any s w hs)
  have HLL := hide (strB_len s)
  have HAT := hide (strB_at s)
  have he := eq_const s [48]
  obtain ⟨z, hz⟩ : ∃ z, z = decide (strB s = [48]) := ⟨_, rfl⟩
  have he' : (s.toList == [48]) = z := by rw [hz]; exact he
  clear he
  generalize hl : strB s = l at *
  clear hl
  cases z with
  | true =>
    have HV : Hid (wholeB l = true) := by unfold Hid wholeB; rw [← hz]; rfl
    clear hz
    go_enter Tryz.func168, Tryz.ntmps168
    go_wp2_with fail
    go_ret
    exact ⟨ret_bool HV.out.symm, rfl⟩
  | false =>
    by_cases h0 : s.size = 0
    · have hem := emp_yes h0
      have HV : Hid (wholeB l = false) := by unfold Hid wholeB; rw [← hz, List.eq_nil_of_length_eq_zero (HLL.out.trans h0)]; rfl
      clear hz
      go_enter Tryz.func168, Tryz.ntmps168
      go_wp2_with fail
      go_ret
      exact ⟨ret_bool HV.out.symm, rfl⟩
    · have hem := emp_no h0
      have h0' : 0 < s.size := by omega
      have hb0 := byte_lt s 0 h0'
      have HNE : Hid (l ≠ []) := by intro h; have := HLL.out; rw [h] at this; simp at this; omega
      cases hm : (((s[0]'h0').toNat : Int) != 48) with
      | false =>
        have HV : Hid (wholeB l = false) := by unfold Hid wholeB; rw [← hz, HAT.out 0 h0']; simp at hm; simp [hm]
        clear hz
        go_enter Tryz.func168, Tryz.ntmps168
        go_wp2_with fail
        go_ret
        exact ⟨ret_bool HV.out.symm, rfl⟩
      | true =>
        have HV : Hid (wholeB l = allDig l) := by unfold Hid wholeB; rw [← hz, HAT.out 0 h0', decide_eq_true HNE.out]; simp at hm; simp [hm]
        clear hz
        go_enter Tryz.func168, Tryz.ntmps168
        go_wp2_with (go_at_call 186; refine (CD.out _).mono ?_; rintro e w' ⟨rfl, hww⟩; subst w')
        go_ret
        exact ⟨ret_bool HV.out.symm, rfl⟩

set_option maxHeartbeats 400000 in
theorem isCents_any (s : ByteArray) (w : World) (hs : s.size ≤ 140737488355328) : Calls Tryz.prog 169 #[.string s] w fun e w' => e = .returned (.bool (centsOk (strB s))) ∧ w' = w := by
  have CD := hide (fun w => areDigits_any s w hs)
  have HLL := hide (strB_len s)
  have he := eq_const s [48, 48]
  obtain ⟨z, hz⟩ : ∃ z, z = decide (strB s = [48, 48]) := ⟨_, rfl⟩
  have he' : (s.toList == [48, 48]) = z := by rw [hz]; exact he
  clear he
  generalize hl : strB s = l at *
  clear hl
  by_cases h2 : s.size = 2
  · have h2b : ((s.size : Int) == 2) = true := by simp [h2]
    cases z with
    | true =>
      have HV : Hid (centsOk l = false) := by unfold Hid centsOk; have := of_decide_eq_true hz.symm; rw [this]; rfl
      clear hz h2
      go_enter Tryz.func169, Tryz.ntmps169
      go_wp2_with fail
      go_ret
      exact ⟨ret_bool HV.out.symm, rfl⟩
    | false =>
      have HV : Hid (centsOk l = allDig l) := by unfold Hid centsOk; have := of_decide_eq_false hz.symm; rw [decide_eq_true (HLL.out.trans h2), decide_eq_true this]; rfl
      clear hz h2
      go_enter Tryz.func169, Tryz.ntmps169
      go_wp2_with (go_at_call 186; refine (CD.out _).mono ?_; rintro e w' ⟨rfl, hww⟩; subst w')
      go_ret
      exact ⟨ret_bool HV.out.symm, rfl⟩
  · have h2b : ((s.size : Int) == 2) = false := by simp; omega
    have HV : Hid (centsOk l = false) := by unfold Hid centsOk; rw [HLL.out, decide_eq_false h2]; rfl
    clear h2
    go_enter Tryz.func169, Tryz.ntmps169
    go_wp2_with fail
    go_ret
    exact ⟨ret_bool HV.out.symm, rfl⟩

end Go.Proofs.YthnjmfkiohgkkaaGreatDoor.Mo

namespace Go.Proofs.YthnjmfkiohgkkaaGreatDoor.Mo

/-- A sign, digits, perhaps a point and two digits. -/
def comp (neg : Bool) (ds cs : List Int) : List Int := (if neg then [45] else []) ++ (ds ++ (if cs = [] then [] else 46 :: cs))

/-- Digits of a number's one form. -/
def GoodDs (ds : List Int) : Prop := ds ≠ [] ∧ allDig ds = true ∧ (ds.length = 1 ∨ ds.getD 0 0 ≠ 48)
def GoodCs (cs : List Int) : Prop := cs = [] ∨ (cs.length = 2 ∧ allDig cs = true ∧ ¬ (cs.getD 0 0 = 48 ∧ cs.getD 1 0 = 48))

structure Good (neg : Bool) (ds cs : List Int) : Prop where
  d : GoodDs ds
  c : GoodCs cs
  n : ¬ (neg = true ∧ ds = [48] ∧ cs = [])

theorem comp_len (neg : Bool) (ds cs : List Int) : (comp neg ds cs).length = (if neg then 1 else 0) + ds.length + (if cs = [] then 0 else cs.length + 1) := by
  unfold comp; cases neg <;> by_cases h : cs = [] <;> simp [h] <;> omega

theorem getD_drop (l : List Int) (a i : Nat) : (l.drop a).getD i 0 = l.getD (a + i) 0 := by simp [List.getD]

theorem getD_app (a b : List Int) (i : Nat) : (a ++ b).getD (a.length + i) 0 = b.getD i 0 := by
  simp only [List.getD, List.getElem?_append_right (Nat.le_add_right _ _), Nat.add_sub_cancel_left]

theorem dig_ne {c : Int} (h : isDig c = true) : c ≠ 45 ∧ c ≠ 46 := by have := of_decide_eq_true h; omega

theorem comp_at {neg : Bool} {ds cs : List Int} (h : GoodDs ds) : atM (comp neg ds cs) = if neg then 1 else 0 := by
  unfold atM negB comp
  cases neg
  · obtain ⟨h1, h2, _⟩ := h
    cases ds with
    | nil => exact absurd rfl h1
    | cons a l =>
      have := of_all h2 0 (by simp)
      simp at this
      have := (dig_ne this).1
      simp [this]
  · simp

theorem comp_drop {neg : Bool} {ds cs : List Int} (h : GoodDs ds) : (comp neg ds cs).drop (atM (comp neg ds cs)) = ds ++ (if cs = [] then [] else 46 :: cs) := by
  rw [comp_at h]
  unfold comp
  cases neg <;> simp

theorem takeWhile_dig (ds rest : List Int) (h : allDig ds = true) (hr : rest = [] ∨ isDig (rest.getD 0 0) = false) : (ds ++ rest).takeWhile isDig = ds := by
  induction ds with
  | nil =>
    rcases hr with rfl | hr
    · rfl
    · cases rest with
      | nil => rfl
      | cons a l => simp at hr; simp [hr]
  | cons a l ih =>
    unfold allDig at h
    simp at h
    simp [h.1]
    exact ih (by unfold allDig; simpa using h.2)

theorem comp_end {neg : Bool} {ds cs : List Int} (h : GoodDs ds) : endM (comp neg ds cs) = (if neg then 1 else 0) + ds.length := by
  unfold endM
  rw [comp_drop h, comp_at h, takeWhile_dig ds _ h.2.1]
  by_cases hc : cs = []
  · left; simp [hc]
  · right; simp [hc]; decide

def amount (ds cs : List Int) : Int := valM ds * 100 + valM cs

theorem parse_21 {l : List Int} (h : (parseM l).2 = 21) : parseM l = (0, 21) := by
  unfold parseM at *
  split at h
  · rw [if_pos (by assumption)]
  · rw [if_neg (by assumption)]
    split at h
    · rw [if_pos (by assumption)]
    · rw [if_neg (by assumption)]
      split at h
      · rw [if_pos (by assumption)]
      · split at h
        · cases h
        · split at h <;> cases h

theorem comp_neg {neg : Bool} {ds cs : List Int} (h : GoodDs ds) : negB (comp neg ds cs) = neg := by
  have h1 := comp_at (neg := neg) (cs := cs) h
  unfold atM at h1
  cases h2 : negB (comp neg ds cs) <;> cases neg <;> simp [h2] at h1 <;> rfl

theorem comp_get {neg : Bool} {ds cs : List Int} (h : GoodDs ds) (i : Nat) : (comp neg ds cs).getD ((if neg = true then 1 else 0) + i) 0 = (ds ++ (if cs = [] then [] else 46 :: cs)).getD i 0 := by
  rw [← comp_drop (neg := neg) (cs := cs) h, getD_drop, comp_at h]

theorem val_two (a b : Int) : valM [a, b] = (a - 48) * 10 + (b - 48) := by unfold valM; simp

theorem two_of {cs : List Int} (h : cs.length = 2) : cs = [cs.getD 0 0, cs.getD 1 0] := by
  match cs, h with
  | [a, b], _ => rfl

/-- What a text of that form is read as. -/
theorem parse_comp {neg : Bool} {ds cs : List Int} (h : Good neg ds cs) :
    parseM (comp neg ds cs) = if 15 < ds.length then (0, 22) else if 1000000000000000 < amount ds cs then (0, 22) else (if neg = true then -amount ds cs else amount ds cs, 0) := by
  obtain ⟨hd, hc, hn⟩ := h
  obtain ⟨N, hN⟩ : ∃ N, N = (if neg = true then 1 else 0 : Nat) := ⟨_, rfl⟩
  have eA := comp_at (neg := neg) (cs := cs) hd
  have eE := comp_end (neg := neg) (cs := cs) hd
  have eL := comp_len neg ds cs
  have eG := comp_get (neg := neg) (cs := cs) hd
  have eD := comp_drop (neg := neg) (cs := cs) hd
  have hN1 : N ≤ 1 := by rw [hN]; split <;> omega
  have hlen : 0 < ds.length := List.length_pos_iff.2 hd.1
  rw [← hN] at eA eE eL
  rw [← hN] at eG
  have e1 : headBad (comp neg ds cs) = false := by
    unfold headBad
    rw [eE, eA]
    refine decide_eq_false (fun hh => ?_)
    rcases hh with hh | ⟨h1, h2⟩
    · omega
    · have h3 := eG 0
      rw [Nat.add_zero, h1] at h3
      have h4 : (ds ++ (if cs = [] then [] else 46 :: cs)).getD 0 0 = ds.getD 0 0 := by
        cases ds with
        | nil => exact absurd rfl hd.1
        | cons a l => rfl
      rw [h4] at h3
      rcases hd.2.2 with h5 | h5
      · omega
      · exact h5 h3.symm
  have e2 : restBad (comp neg ds cs) (N + ds.length) = false := by
    unfold restBad
    refine decide_eq_false (fun hh => ?_)
    obtain ⟨h1, h2⟩ := hh
    rcases hc with hc | ⟨hc1, hc2, hc3⟩
    · rw [eL, if_pos hc] at h1; omega
    · have hne : cs ≠ [] := by intro h; rw [h] at hc1; cases hc1
      apply h2
      have g : ∀ i, (comp neg ds cs).getD (N + ds.length + i) 0 = (46 :: cs).getD i 0 := by
        intro i
        rw [Nat.add_assoc, eG, if_neg hne, getD_app]
      refine ⟨by rw [eL, if_neg hne]; omega, by have := g 0; rwa [Nat.add_zero] at this, ?_, ?_, ?_⟩
      · rw [g 1]; exact of_all hc2 0 (by omega)
      · rw [g 2]; exact of_all hc2 1 (by omega)
      · rw [g 1, g 2]; exact hc3
  have e3 : minusBad (comp neg ds cs) = false := by
    unfold minusBad
    refine decide_eq_false (fun hh => ?_)
    obtain ⟨h1, h2, h3⟩ := hh
    rw [eA] at h1
    have hneg : neg = true := by cases neg with
      | true => rfl
      | false => simp at hN; omega
    rw [eL] at h2
    rcases hc with hc | ⟨hc1, _, _⟩
    · rw [if_pos hc] at h2
      apply hn
      refine ⟨hneg, ?_, hc⟩
      have hl1 : ds.length = 1 := by omega
      have h4 := eG 0
      rw [h1, Nat.add_zero, h3] at h4
      match ds, hl1 with
      | [a], _ =>
        simp at h4
        rw [← h4]
    · have hne : cs ≠ [] := by intro h; rw [h] at hc1; cases hc1
      rw [if_neg hne] at h2; omega
  have e4 : centM (comp neg ds cs) = amount ds cs := by
    unfold centM amount
    rw [eD, eE, eA, show N + ds.length - N = ds.length by omega, List.take_left' rfl]
    congr 1
    rcases hc with hc | ⟨hc1, hc2, hc3⟩
    · rw [if_pos (by rw [eL, if_pos hc]; omega), hc]; rfl
    · have hne : cs ≠ [] := by intro h; rw [h] at hc1; cases hc1
      rw [if_neg (by rw [eL, if_neg hne]; omega)]
      have g : ∀ i, (comp neg ds cs).getD (N + ds.length + i) 0 = (46 :: cs).getD i 0 := by
        intro i
        rw [Nat.add_assoc, eG, if_neg hne, getD_app]
      rw [g 1, g 2]
      conv => rhs; rw [two_of hc1, val_two]
      rfl
  unfold parseM
  rw [e1, eE, e2, e3, eA, e4, comp_neg hd, show N + ds.length - N = ds.length by omega]
  simp

/-- What is read as an amount (or as one too great) is of that form. -/
theorem parse_good {l : List Int} (h : (parseM l).2 ≠ 21) : ∃ neg ds cs, Good neg ds cs ∧ l = comp neg ds cs := by
  have h1 : headBad l = false := by
    cases hh : headBad l with
    | false => rfl
    | true => exfalso; apply h; unfold parseM; rw [if_pos hh]
  have h2 : restBad l (endM l) = false := by
    cases hh : restBad l (endM l) with
    | false => rfl
    | true => exfalso; apply h; unfold parseM; rw [if_neg (by rw [h1]; simp), if_pos hh]
  have h3 : minusBad l = false := by
    cases hh : minusBad l with
    | false => rfl
    | true => exfalso; apply h; unfold parseM; rw [if_neg (by rw [h1]; simp), if_neg (by rw [h2]; simp), if_pos hh]
  clear h
  have h1 := of_decide_eq_false h1
  have h2 := of_decide_eq_false h2
  have h3 := of_decide_eq_false h3
  obtain ⟨D, hD⟩ : ∃ D, D = l.drop (atM l) := ⟨_, rfl⟩
  obtain ⟨ds, hds⟩ : ∃ ds, ds = D.takeWhile isDig := ⟨_, rfl⟩
  obtain ⟨R, hR⟩ : ∃ R, R = D.dropWhile isDig := ⟨_, rfl⟩
  have hDR : D = ds ++ R := by rw [hds, hR]; exact (List.takeWhile_append_dropWhile).symm
  have hE : endM l = atM l + ds.length := by unfold endM; rw [← hD, ← hds]
  have hat := at_le l
  have hlD : D.length = l.length - atM l := by rw [hD, List.length_drop]
  have hlen : l.length = atM l + ds.length + R.length := by
    have := congrArg List.length hDR
    rw [List.length_append] at this
    omega
  have gD : ∀ i, l.getD (atM l + i) 0 = D.getD i 0 := fun i => by rw [hD, getD_drop]
  have gR : ∀ i, l.getD (atM l + ds.length + i) 0 = R.getD i 0 := fun i => by
    rw [Nat.add_assoc, gD, hDR, getD_app]
  have hne : ds ≠ [] := by intro hh; apply h1; left; rw [hE, hh]; rfl
  have hdl : 0 < ds.length := List.length_pos_iff.2 hne
  have hdig : allDig ds = true := by
    unfold allDig; rw [hds]; exact List.all_takeWhile
  have hg0 : D.getD 0 0 = ds.getD 0 0 := by
    rw [hDR]
    cases ds with
    | nil => exact absurd rfl hne
    | cons a l => rfl
  have hGD : GoodDs ds := by
    refine ⟨hne, hdig, ?_⟩
    by_cases h48 : ds.getD 0 0 = 48
    · left
      have : ¬ (atM l + 1 < endM l) := fun hh => h1 (.inr ⟨by have := gD 0; rw [Nat.add_zero] at this; rw [this, hg0]; exact h48, hh⟩)
      omega
    · right; exact h48
  have hsg : l = (if negB l = true then [45] else []) ++ D := by
    rw [hD]
    unfold atM
    cases hn : negB l with
    | false => simp
    | true =>
      have := of_decide_eq_true hn
      cases l with
      | nil => simp at this
      | cons a l => simp at this; simp [this]
  rw [hE] at h2
  by_cases hR0 : R = []
  · refine ⟨negB l, ds, [], ⟨hGD, .inl rfl, ?_⟩, ?_⟩
    · rintro ⟨n1, n2, _⟩
      apply h3
      have ha1 : atM l = 1 := by unfold atM; rw [if_pos n1]
      refine ⟨ha1, by rw [hlen, hR0, n2, ha1]; rfl, ?_⟩
      have := gD 0
      rw [ha1] at this
      rw [this, hg0, n2]; rfl
    · unfold comp
      rw [if_pos rfl, List.append_nil]
      conv => lhs; rw [hsg, hDR, hR0, List.append_nil]
  · have hRl : 0 < R.length := List.length_pos_iff.2 hR0
    have h4 : (l.length = atM l + ds.length + 3 ∧ l.getD (atM l + ds.length) 0 = 46 ∧ isDig (l.getD (atM l + ds.length + 1) 0) = true ∧ isDig (l.getD (atM l + ds.length + 2) 0) = true ∧ ¬ (l.getD (atM l + ds.length + 1) 0 = 48 ∧ l.getD (atM l + ds.length + 2) 0 = 48)) := by
      apply Classical.byContradiction
      intro hh
      exact h2 ⟨by omega, hh⟩
    obtain ⟨k1, k2, k3, k4, k5⟩ := h4
    have kR : R.length = 3 := by omega
    rw [gR 1] at k3 k5
    rw [gR 2] at k4 k5
    have k2' : R.getD 0 0 = 46 := by have := gR 0; rw [Nat.add_zero] at this; rw [← this]; exact k2
    obtain ⟨c, a, b, rfl⟩ : ∃ c a b, R = [c, a, b] := by
      match R, kR with
      | [c, a, b], _ => exact ⟨c, a, b, rfl⟩
    simp at k2' k3 k4 k5
    refine ⟨negB l, ds, [a, b], ⟨hGD, .inr ⟨rfl, by unfold allDig; simp [k3, k4], by simpa using k5⟩, ?_⟩, ?_⟩
    · rintro ⟨_, _, n3⟩; cases n3
    · have hc : comp (negB l) ds [a, b] = (if negB l = true then [45] else []) ++ (ds ++ [46, a, b]) := by unfold comp; simp
      rw [hc]
      conv => lhs; rw [hsg, hDR, k2']

end Go.Proofs.YthnjmfkiohgkkaaGreatDoor.Mo

namespace Go.Proofs.YthnjmfkiohgkkaaGreatDoor.Mo
open Go.RowKit

theorem getD_bytes (s : ByteArray) (k : Nat) (c : UInt8) (h : s.data.toList[k]? = some c) : (strB s).getD k 0 = (c.toNat : Int) := by
  unfold strB
  simp only [List.getD, List.getElem?_map, h, Option.map_some, Option.getD_some]

theorem dot_split (s : ByteArray) : (Lib.indexByte s.data.toList 46 = -1 ∧ ∀ k, k < s.size → (strB s).getD k 0 ≠ 46) ∨
    (∃ k : Nat, k < s.size ∧ Lib.indexByte s.data.toList 46 = k ∧ (strB s).getD k 0 = 46 ∧ ∀ i, i < k → (strB s).getD i 0 ≠ 46) := by
  have key : ∀ i (hi : i < s.size), s.data.toList[i]? ≠ some 46 → (strB s).getD i 0 ≠ 46 := by
    intro i hi h hh
    apply h
    have hi' : i < s.data.toList.length := by simpa using hi
    rw [List.getElem?_eq_getElem hi']
    congr 1
    have := getD_bytes s i _ (List.getElem?_eq_getElem hi')
    rw [hh] at this
    have h2 : (46 : UInt8).toNat = s.data.toList[i].toNat := by
      have : (46 : Int) = (s.data.toList[i].toNat : Int) := this
      have h3 : (46 : UInt8).toNat = 46 := rfl
      omega
    exact (UInt8.toNat_inj.1 h2).symm
  rcases (show Lib.indexByte s.data.toList 46 = -1 ∨ 0 ≤ Lib.indexByte s.data.toList 46 by have := Lib.indexByte_ge s.data.toList 46; omega) with h | h
  · exact .inl ⟨h, fun k hk => key k hk (Lib.indexByte_none h k)⟩
  · obtain ⟨k, hk⟩ := Int.eq_ofNat_of_zero_le h
    have hs := Lib.indexByte_some hk
    have hlt : k < s.size := by
      rcases Nat.lt_or_ge k s.size with h' | h'
      · exact h'
      · have := hs.1
        rw [List.getElem?_eq_none (by simpa using h')] at this
        cases this
    exact .inr ⟨k, hlt, hk, getD_bytes s k 46 hs.1, fun i hi => key i (by omega) (hs.2 i hi)⟩

set_option maxHeartbeats 400000 in
theorem index_any (s : ByteArray) (w : World) :
    Calls Tryz.prog 187 #[.string s, .string ⟨#[46]⟩] w fun e w' => e = .returned (.int .i64 (Lib.indexByte s.data.toList 46)) ∧ w' = w := by
  have CI := hide (fun w => Tryz.stringslite_IndexByte s 46 w)
  rw [show (Int.toNat 46).toUInt8 = 46 from rfl] at CI
  cases h : ([46] == s.toList) with
  | true =>
    have HV : Hid (Lib.indexByte s.data.toList 46 = 0) := by
      have h1 : s.toList = [46] := (by simpa using h : [46] = s.toList).symm
      rw [ByteArray.toList_eq] at h1
      unfold Hid
      rw [h1]; rfl
    go_enter Tryz.func187, Tryz.ntmps187
    go_wp2_with (go_at_call 203; refine (CI.out _).mono ?_; rintro e w' ⟨rfl, hww⟩; subst w')
    go_ret
    exact ⟨ret_i64 HV.out.symm, rfl⟩
  | false =>
    go_enter Tryz.func187, Tryz.ntmps187
    go_wp2_with (go_at_call 203; refine (CI.out _).mono ?_; rintro e w' ⟨rfl, hww⟩; subst w')
    go_ret
    exact ⟨rfl, rfl⟩

set_option maxHeartbeats 400000 in
theorem cut_none0 (s : ByteArray) (w : World) (h : Lib.indexByte s.data.toList 46 = -1) :
    Calls Tryz.prog 185 #[.string s, .string ⟨#[46]⟩] w fun e w' => e = .returned (.tuple #[.string s, .string ⟨#[]⟩, .bool false]) ∧ w' = w := by
  have CI := hide (fun w => index_any s w)
  rw [h] at CI
  clear h
  go_enter Tryz.func185, Tryz.ntmps185
  go_wp2_with (go_at_call 187; refine (CI.out _).mono ?_; rintro e w' ⟨rfl, hww⟩; subst w')
  go_ret3
  exact ⟨rfl, rfl⟩

theorem cut_none (s : ByteArray) (w : World) (h : Lib.indexByte s.data.toList 46 = -1) :
    Calls Tryz.prog 167 #[.string s, .string ⟨#[46]⟩] w fun e w' => e = .returned (.tuple #[.string s, .string ⟨#[]⟩, .bool false]) ∧ w' = w := by
  have CI := hide (fun w => cut_none0 s w h)
  clear h
  go_enter Tryz.func167, Tryz.ntmps167
  go_wp2_with (go_at_call 185; refine (CI.out _).mono ?_; rintro e w' ⟨rfl, hww⟩; subst w')
  go_ret3
  exact ⟨rfl, rfl⟩

set_option maxHeartbeats 800000 in
theorem cut_some0 (s : ByteArray) (w : World) (hs : s.size ≤ 140737488355328) (k : Nat) (hk : k < s.size) (h : Lib.indexByte s.data.toList 46 = k) :
    Calls Tryz.prog 185 #[.string s, .string ⟨#[46]⟩] w fun e w' => e = .returned (.tuple #[.string (s.extract 0 k), .string (s.extract (k + 1) s.size), .bool true]) ∧ Below w.heap.size w w' := by
  have CI := hide (fun w => index_any s w)
  rw [h] at CI
  have c1 : (0 : Int) ≤ ↑k := by omega
  have c2 : (↑k : Int) ≤ ↑s.size := by omega
  have c3 : (0 : Int) ≤ ↑k + 1 := by omega
  have c4 : (↑k + 1 : Int) ≤ ↑s.size := by omega
  have c5 : IntKind.i64.wrap ((k : Int) + 1) = (k : Int) + 1 := by rw [IntKind.wrap_i64]; omega
  have c6 : ((k : Int) + 1).toNat = k + 1 := by omega
  clear h
  go_enter Tryz.func185, Tryz.ntmps185
  go_wp2_with (go_at_call 187; refine (CI.out _).mono ?_; rintro e w' ⟨rfl, hww⟩; subst w')
  go_region
  go_wp2
  go_ret3
  exact ⟨rfl, ⟨rfl, rfl, rfl, Nat.le_refl _, fun _ _ => rfl⟩⟩

theorem cut_some (s : ByteArray) (w : World) (hs : s.size ≤ 140737488355328) (k : Nat) (hk : k < s.size) (h : Lib.indexByte s.data.toList 46 = k) :
    Calls Tryz.prog 167 #[.string s, .string ⟨#[46]⟩] w fun e w' => e = .returned (.tuple #[.string (s.extract 0 k), .string (s.extract (k + 1) s.size), .bool true]) ∧ Below w.heap.size w w' := by
  have CI := hide (fun w => cut_some0 s w hs k hk h)
  clear h
  go_enter Tryz.func167, Tryz.ntmps167
  go_wp2_with (go_at_call 185; refine (CI.out _).mono ?_; rintro e w1 ⟨rfl, hb1⟩)
  go_ret3
  exact ⟨rfl, hb1⟩

theorem strB_extract (s : ByteArray) (a b : Nat) : strB (s.extract a b) = ((strB s).take b).drop a := by
  unfold strB
  rw [ByteArray.data_extract]
  simp [List.extract, List.map_take, List.map_drop, List.drop_take]

theorem cutPrefix_any (s : ByteArray) (w : World) : Calls Tryz.prog 166 #[.string s, .string ⟨#[45]⟩] w fun e w' => ∃ d : ByteArray, e = .returned (.tuple #[.string d, .bool (negB (strB s))]) ∧ strB d = (strB s).drop (atM (strB s)) ∧ d.size ≤ s.size ∧ w' = w := by
  refine (Tryz.strings_CutPrefix s ⟨#[45]⟩ w).mono ?_
  rintro e w' ⟨rfl, rfl⟩
  have e1 : Lib.hasPrefix s.data.toList [45] = negB (strB s) := by
    unfold Lib.hasPrefix negB strB
    cases s.data.toList with
    | nil => rfl
    | cons a l =>
      simp only [List.isPrefixOf, List.map_cons, List.getD_cons_zero, Bool.and_true]
      by_cases h : a = 45
      · subst h; rfl
      · rw [decide_eq_false]
        · simpa using fun hh => h hh.symm
        · intro hh
          apply h
          have h3 : (45 : UInt8).toNat = 45 := rfl
          exact UInt8.toNat_inj.1 (by omega)
  refine ⟨_, by rw [e1], ?_, ?_, rfl⟩
  · have : Lib.trimPrefix s.data.toList [45] = s.data.toList.drop (atM (strB s)) := by
      unfold Lib.trimPrefix atM
      rw [e1]
      cases negB (strB s) <;> simp
    show (Lib.trimPrefix s.data.toList [45]).map _ = _
    rw [this]
    unfold strB
    rw [List.map_drop]
  · show (Lib.trimPrefix s.data.toList [45]).length ≤ _
    unfold Lib.trimPrefix
    split
    · rw [List.length_drop]; simp
    · simp

theorem list_split {l : List Int} {k : Nat} (hk : k < l.length) : l = l.take k ++ l.getD k 0 :: l.drop (k + 1) := by
  have h1 : l.drop k = l[k] :: l.drop (k + 1) := List.drop_eq_getElem_cons hk
  have h2 : l.getD k 0 = l[k] := by simp [List.getD, hk]
  rw [h2, ← h1, List.take_append_drop]

theorem not_mem_take {l : List Int} {k : Nat} {c : Int} (h : ∀ i, i < k → l.getD i 0 ≠ c) : c ∉ l.take k := by
  intro hm
  obtain ⟨i, hi, e⟩ := List.getElem_of_mem hm
  have h1 : i < k := by simp at hi; omega
  have h2 : i < l.length := by simp at hi; omega
  have := h i h1
  apply this
  rw [← e]
  simp [List.getD, h2]

/-- strings.Cut at a point: what is ahead of the first, and what is behind it. -/
theorem cut_any (s : ByteArray) (w : World) (hs : s.size ≤ 140737488355328) :
    Calls Tryz.prog 167 #[.string s, .string ⟨#[46]⟩] w fun e w' => ∃ (a b : ByteArray) (f : Bool), e = .returned (.tuple #[.string a, .string b, .bool f]) ∧ a.size ≤ s.size ∧ b.size ≤ s.size ∧
      strB s = strB a ++ (if f = true then 46 :: strB b else []) ∧ 46 ∉ strB a ∧ (f = false → strB b = []) ∧ Below w.heap.size w w' := by
  have hlen := strB_len s
  rcases dot_split s with ⟨h, hn⟩ | ⟨k, hk, h, hd, hn⟩
  · refine (cut_none s w h).mono ?_
    rintro e w' ⟨rfl, rfl⟩
    refine ⟨s, ⟨#[]⟩, false, rfl, Nat.le_refl _, Nat.zero_le _, by simp, ?_, fun _ => rfl, Below.refl _ _⟩
    have := not_mem_take (l := strB s) (k := (strB s).length) (c := 46) (fun i hi => hn i (by omega))
    rwa [List.take_of_length_le (Nat.le_refl _)] at this
  · refine (cut_some s w hs k hk h).mono ?_
    rintro e w' ⟨rfl, hb⟩
    refine ⟨_, _, true, rfl, by simp; omega, by simp, ?_, ?_, fun hh => (by cases hh), hb⟩
    · rw [strB_extract, strB_extract, List.drop_zero, List.take_of_length_le (i := s.size) (by omega), if_pos rfl]
      have := list_split (l := strB s) (k := k) (by omega)
      rw [hd] at this
      exact this
    · rw [strB_extract, List.drop_zero]
      exact not_mem_take hn

end Go.Proofs.YthnjmfkiohgkkaaGreatDoor.Mo

namespace Go.Proofs.YthnjmfkiohgkkaaGreatDoor.Mo
open Go.RowKit

/-- The program's way: a sign, what is ahead of the first point, what is behind it. -/
def parseP (neg : Bool) (A B : List Int) (f : Bool) : Int × Int :=
  if wholeB A = false ∨ (f = true ∧ centsOk B = false) then (0, 21) else if neg = true ∧ A = [48] ∧ f = false then (0, 21) else if 14 < A.length then (0, 22)
  else if 1000000000000000 < 100 * valM A + valM B then (0, 22) else (if neg = true then -(100 * valM A + valM B) else 100 * valM A + valM B, 0)

theorem wholeB_good (l : List Int) : wholeB l = true ↔ GoodDs l := by
  unfold wholeB GoodDs
  constructor
  · intro h
    rw [Bool.or_eq_true, Bool.and_eq_true, Bool.and_eq_true] at h
    rcases h with h | ⟨h1, h2, h3⟩
    · have := of_decide_eq_true h
      subst this
      exact ⟨by simp, by decide, .inl rfl⟩
    · exact ⟨of_decide_eq_true h1, h3, .inr (of_decide_eq_true h2)⟩
  · rintro ⟨h1, h2, h3⟩
    by_cases h4 : l.getD 0 0 = 48
    · rcases h3 with h3 | h3
      · match l, h3 with
        | [a], _ => simp at h4; subst h4; rfl
      · exact absurd h4 h3
    · rw [decide_eq_true h1, decide_eq_true h4, h2]; simp

theorem centsOk_good (l : List Int) : centsOk l = true ↔ (l.length = 2 ∧ allDig l = true ∧ ¬ (l.getD 0 0 = 48 ∧ l.getD 1 0 = 48)) := by
  unfold centsOk
  rw [Bool.and_eq_true, Bool.and_eq_true]
  constructor
  · rintro ⟨h1, h2, h3⟩
    have h1 := of_decide_eq_true h1
    have h2 := of_decide_eq_true h2
    refine ⟨h1, h3, fun h => h2 ?_⟩
    rw [two_of h1, h.1, h.2]
  · rintro ⟨h1, h2, h3⟩
    refine ⟨decide_eq_true h1, decide_eq_true (fun h => h3 ?_), h2⟩
    rw [h]; exact ⟨rfl, rfl⟩

theorem split_one {A B A' B' : List Int} (h1 : 46 ∉ A) (h2 : 46 ∉ A') (h : A ++ 46 :: B = A' ++ 46 :: B') : A = A' ∧ B = B' := by
  induction A generalizing A' with
  | nil =>
    cases A' with
    | nil => simp at h; exact ⟨rfl, h⟩
    | cons a l => simp at h; exact absurd (h.1 ▸ List.mem_cons_self ..) h2
  | cons a l ih =>
    cases A' with
    | nil => simp at h; exact absurd (h.1 ▸ List.mem_cons_self ..) h1
    | cons a' l' =>
      simp at h
      have := ih (fun hh => h1 (List.mem_cons_of_mem _ hh)) (fun hh => h2 (List.mem_cons_of_mem _ hh)) h.2
      exact ⟨by rw [h.1, this.1], this.2⟩

theorem not_mem_dig {ds : List Int} (h : allDig ds = true) : 46 ∉ ds := by
  intro hm
  unfold allDig at h
  rw [List.all_eq_true] at h
  have := h _ hm
  simp [isDig] at this

theorem fold_bounds : ∀ (l : List Int) (a : Int), 0 ≤ a → allDig l = true → a * 10 ^ l.length ≤ l.foldl (fun n c => n * 10 + (c - 48)) a ∧ l.foldl (fun n c => n * 10 + (c - 48)) a < (a + 1) * 10 ^ l.length := by
  intro l
  induction l with
  | nil => intro a ha _; simp; omega
  | cons c l ih =>
    intro a ha h
    unfold allDig at h
    rw [List.all_cons, Bool.and_eq_true] at h
    have hc := of_decide_eq_true h.1
    have := ih (a * 10 + (c - 48)) (by omega) h.2
    rw [List.foldl_cons, List.length_cons, Int.pow_succ]
    have hp : (0 : Int) < 10 ^ l.length := Int.pow_pos (by decide)
    generalize (10 : Int) ^ l.length = P at *
    generalize l.foldl _ _ = R at *
    have e1 : a * (P * 10) ≤ (a * 10 + (c - 48)) * P := by
      rw [Int.add_mul, show a * (P * 10) = a * 10 * P by rw [Int.mul_comm P 10, Int.mul_assoc]]
      have : 0 ≤ (c - 48) * P := Int.mul_nonneg (by omega) (by omega)
      omega
    have e2 : (a * 10 + (c - 48) + 1) * P ≤ (a + 1) * (P * 10) := by
      rw [show (a + 1) * (P * 10) = (a * 10 + 10) * P by rw [Int.mul_comm P 10, ← Int.mul_assoc]; congr 1; omega]
      exact Int.mul_le_mul_of_nonneg_right (by omega) (by omega)
    omega

theorem val_ge (ds : List Int) (h : allDig ds = true) : 0 ≤ valM ds := by
  have := (fold_bounds ds 0 (by decide) h).1
  rw [Int.zero_mul] at this
  exact this

theorem val_lt (ds : List Int) (h : allDig ds = true) : valM ds < 10 ^ ds.length := by
  have := (fold_bounds ds 0 (by decide) h).2
  rw [Int.zero_add, Int.one_mul] at this
  exact this

theorem val_lead {ds : List Int} (h : allDig ds = true) (h0 : ds.getD 0 0 ≠ 48) (hl : 15 ≤ ds.length) : 100000000000000 ≤ valM ds := by
  cases ds with
  | nil => simp at hl
  | cons c l =>
    unfold allDig at h
    rw [List.all_cons, Bool.and_eq_true] at h
    have hc := of_decide_eq_true h.1
    simp at h0
    have := (fold_bounds l (c - 48) (by omega) h.2).1
    have e : valM (c :: l) = l.foldl (fun n c => n * 10 + (c - 48)) (c - 48) := by unfold valM; rw [List.foldl_cons]; congr 1; omega
    rw [e]
    have hp : (10 : Int) ^ 14 ≤ 10 ^ l.length := by
      have : (10 : Nat) ^ 14 ≤ 10 ^ l.length := Nat.pow_le_pow_right (by decide) (by simp at hl; omega)
      have e1 : ((10 ^ l.length : Nat) : Int) = (10 : Int) ^ l.length := by simp
      have e2 : ((10 ^ 14 : Nat) : Int) = (10 : Int) ^ 14 := by simp
      omega
    have h14 : (10 : Int) ^ 14 = 100000000000000 := by decide
    have h3 : 1 * (10 : Int) ^ l.length ≤ (c - 48) * 10 ^ l.length := Int.mul_le_mul_of_nonneg_right (by omega) (by omega)
    omega

/-- The program's way and the page's are one. -/
theorem parse_eq {l A B : List Int} {f : Bool} (h : l = (if negB l = true then [45] else []) ++ (A ++ (if f = true then 46 :: B else []))) (hA : 46 ∉ A) (hB : f = false → B = []) :
    parseP (negB l) A B f = parseM l := by
  by_cases hgood : Good (negB l) A B ∧ (f = true → B ≠ [])
  · obtain ⟨hg, hf⟩ := hgood
    have hl : l = comp (negB l) A B := by
      conv => lhs; rw [h]
      unfold comp
      cases f with
      | false => rw [hB rfl]; simp
      | true => rw [if_pos rfl, if_neg (hf rfl)]
    have hp : parseM l = parseM (comp (negB l) A B) := congrArg parseM hl
    rw [hp, parse_comp hg]
    obtain ⟨hd, hc, hn⟩ := hg
    have e1 : wholeB A = true := (wholeB_good A).2 hd
    have e2 : f = true → centsOk B = true := fun hf1 => by
      rcases hc with hc | hc
      · exact absurd hc (hf hf1)
      · exact (centsOk_good B).2 hc
    have hvB : 0 ≤ valM B := by
      rcases hc with rfl | hc
      · decide
      · exact val_ge B hc.2.1
    unfold parseP
    rw [if_neg (by rintro (hh | ⟨h1, h2⟩); · rw [e1] at hh; cases hh
                   · rw [e2 h1] at h2; cases h2)]
    rw [if_neg (by rintro ⟨h1, h2, h3⟩; exact hn ⟨h1, h2, hB h3⟩)]
    have hm : 100 * valM A + valM B = amount A B := by unfold amount; omega
    rw [hm]
    by_cases h15 : 15 < A.length
    · rw [if_pos (by omega), if_pos h15]
    · rw [if_neg h15]
      by_cases h14 : 14 < A.length
      · rw [if_pos h14, if_pos]
        have h48 : A.getD 0 0 ≠ 48 := by rcases hd.2.2 with h | h; · omega
                                         · exact h
        have := val_lead hd.2.1 h48 (by omega)
        unfold amount; omega
      · rw [if_neg h14]
  · have hbad : parseP (negB l) A B f = (0, 21) := by
      unfold parseP
      by_cases c1 : wholeB A = false ∨ (f = true ∧ centsOk B = false)
      · rw [if_pos c1]
      · rw [if_neg c1, if_pos]
        apply Classical.byContradiction
        intro c2
        apply hgood
        have hd : GoodDs A := (wholeB_good A).1 (by cases hw : wholeB A with | true => rfl | false => exact absurd (.inl hw) c1)
        have hcs : f = true → (B.length = 2 ∧ allDig B = true ∧ ¬ (B.getD 0 0 = 48 ∧ B.getD 1 0 = 48)) := fun hf1 => (centsOk_good B).1 (by cases hw : centsOk B with | true => rfl | false => exact absurd (.inr ⟨hf1, hw⟩) c1)
        refine ⟨⟨hd, ?_, ?_⟩, fun hf1 hb => ?_⟩
        · cases f with
          | false => exact .inl (hB rfl)
          | true => exact .inr (hcs rfl)
        · rintro ⟨n1, n2, n3⟩
          apply c2
          refine ⟨n1, n2, ?_⟩
          cases f with
          | false => rfl
          | true => have := (hcs rfl).1; rw [n3] at this; cases this
        · have := (hcs hf1).1; rw [hb] at this; cases this
    rw [hbad]
    symm
    apply parse_21
    apply Classical.byContradiction
    intro hh
    obtain ⟨neg, ds, cs, hg, hl⟩ := parse_good hh
    apply hgood
    have hneg : negB l = neg := by rw [hl]; exact comp_neg hg.d
    have hmem : 46 ∉ ds := not_mem_dig hg.d.2.1
    have e : A ++ (if f = true then 46 :: B else []) = ds ++ (if cs = [] then [] else 46 :: cs) := by
      have h1 : l = (if neg = true then [45] else []) ++ (ds ++ (if cs = [] then [] else 46 :: cs)) := hl
      rw [← hneg] at h1
      exact List.append_cancel_left (h.symm.trans h1)
    rw [hneg]
    cases f with
    | false =>
      rw [if_neg (by simp), List.append_nil] at e
      by_cases hcs : cs = []
      · rw [if_pos hcs, List.append_nil] at e
        rw [hB rfl, e, ← hcs]
        exact ⟨hg, fun hf => by cases hf⟩
      · rw [if_neg hcs] at e
        rw [e] at hA
        exact absurd (List.mem_append_right _ (List.mem_cons_self ..)) hA
    | true =>
      rw [if_pos rfl] at e
      by_cases hcs : cs = []
      · rw [if_pos hcs, List.append_nil] at e
        rw [← e] at hmem
        exact absurd (List.mem_append_right _ (List.mem_cons_self ..)) hmem
      · rw [if_neg hcs] at e
        obtain ⟨rfl, rfl⟩ := split_one hA hmem e
        exact ⟨hg, fun _ => hcs⟩

theorem sign_drop (l : List Int) : l = (if negB l = true then [45] else []) ++ l.drop (atM l) := by
  unfold atM
  cases hn : negB l with
  | false => simp
  | true =>
    have := of_decide_eq_true hn
    cases l with
    | nil => simp at this
    | cons a l => simp at this; simp [this]

set_option maxRecDepth 100000 in
set_option maxHeartbeats 6000000 in
theorem parse_any (s : ByteArray) (w : World) (hs : s.size ≤ 140737488355328) :
    Calls Tryz.prog 152 #[.string s] w fun e w' => e = .returned (pairV (parseM (strB s))) ∧ Below w.heap.size w w' := by
  obtain ⟨l, hl⟩ : ∃ l, l = strB s := ⟨_, rfl⟩
  have HSD := hide (sign_drop l)
  have C0 := hide (fun w => cutPrefix_any s w)
  rw [← hl] at C0 ⊢
  clear hl
  obtain ⟨neg, hneg⟩ : ∃ b, b = negB l := ⟨_, rfl⟩
  have HNG := hide hneg
  rw [← hneg] at C0 HSD
  clear hneg
  go_enter Tryz.func152, Tryz.ntmps152
  go_wp2_with fail
  refine (C0.out _).mono ?_
  rintro e w1 ⟨d, rfl, hd, hds, rfl⟩
  have HD := hide hd
  have C1 := hide (fun w => cut_any d w (by omega))
  clear hd C0
  go_wp2_with fail
  refine (C1.out _).mono ?_
  rintro e w2 ⟨a, b, f, rfl, ha, hb, hsp, hna, hfb, hb2⟩
  clear C1
  have HP : Hid (parseP neg (strB a) (strB b) f = parseM l) := by
    have h1 := HSD.out
    rw [← HD.out, hsp] at h1
    have := parse_eq (l := l) (A := strB a) (B := strB b) (f := f) (by rw [← HNG.out]; exact h1) hna hfb
    rw [← HNG.out] at this
    exact this
  have HFB := hide hfb
  clear hsp hna hfb
  have CW := hide (fun w => isWhole_any a w (by omega))
  have CC := hide (fun w => isCents_any b w (by omega))
  have hA48 := eq_const a [48]
  have HLA := hide (strB_len a)
  have HLB := hide (strB_len b)
  obtain ⟨z, hz⟩ : ∃ z, z = decide (strB a = [48]) := ⟨_, rfl⟩
  have hA48' : (a.toList == [48]) = z := by rw [hz]; exact hA48
  have HZ := hide hz
  clear hz hA48
  cases hw : wholeB (strB a) with
  | false =>
    have HV : Hid (parseM l = (0, 21)) := by unfold Hid; rw [← HP.out]; unfold parseP; rw [if_pos (.inl hw)]
    rw [hw] at CW
    clear hw
    go_wp2_with (go_at_call 168; refine (CW.out _).mono ?_; rintro e w3 ⟨rfl, hww⟩; subst w3)
    go_ret2
    exact ⟨ret_pair HV.out, hb2⟩
  | true =>
    have HW := hide hw
    rw [hw] at CW
    clear hw
    cases hf : (f && !centsOk (strB b)) with
    | true =>
      rw [Bool.and_eq_true] at hf
      have hf1 : f = true := hf.1
      have hcb : centsOk (strB b) = false := by simpa using hf.2
      subst hf1
      have HV : Hid (parseM l = (0, 21)) := by unfold Hid; rw [← HP.out]; unfold parseP; rw [if_pos (.inr ⟨rfl, hcb⟩)]
      rw [hcb] at CC
      clear hf hcb
      go_wp2_with (first | (go_at_call 168; refine (CW.out _).mono ?_; rintro e w3 ⟨rfl, hww⟩; subst w3) | (go_at_call 169; refine (CC.out _).mono ?_; rintro e w3 ⟨rfl, hww⟩; subst w3))
      go_ret2
      exact ⟨ret_pair HV.out, hb2⟩
    | false =>
      have HF1 : Hid (¬ (wholeB (strB a) = false ∨ (f = true ∧ centsOk (strB b) = false))) := by
        rintro (h | ⟨h1, h2⟩)
        · rw [HW.out] at h; cases h
        · rw [h1, h2] at hf; cases hf
      have HCB : Hid (allDig (strB b) = true ∧ b.size ≤ 2) := by
        cases f with
        | false => rw [HFB.out rfl]; refine ⟨rfl, ?_⟩; have := HLB.out; rw [HFB.out rfl] at this; simp at this; omega
        | true =>
          have hc : centsOk (strB b) = true := by simpa using hf
          have := (centsOk_good _).1 hc
          exact ⟨this.2.1, by rw [← HLB.out]; omega⟩
      have HCC : Hid (f = true → centsOk (strB b) = true) := fun h => by rw [h] at hf; simpa using hf
      clear hf
      cases hm : (neg && (z && !f)) with
      | true =>
        rw [Bool.and_eq_true, Bool.and_eq_true] at hm
        obtain ⟨hm1, hm2, hm3⟩ := hm
        have hm3' : f = false := by simpa using hm3
        subst hm1 hm2 hm3'
        have HV : Hid (parseM l = (0, 21)) := by unfold Hid; rw [← HP.out]; unfold parseP; rw [if_neg HF1.out, if_pos ⟨rfl, of_decide_eq_true HZ.out.symm, rfl⟩]
        go_wp2_with (first | (go_at_call 168; refine (CW.out _).mono ?_; rintro e w3 ⟨rfl, hww⟩; subst w3) | (go_at_call 169; refine (CC.out _).mono ?_; rintro e w3 ⟨rfl, hww⟩; subst w3))
        go_ret2
        exact ⟨ret_pair HV.out, hb2⟩
      | false =>
        have HM : Hid (¬ (neg = true ∧ strB a = [48] ∧ f = false)) := by
          rintro ⟨h1, h2, h3⟩
          have : z = true := by rw [HZ.out]; exact decide_eq_true h2
          rw [h1, this, h3] at hm; cases hm
        by_cases h14 : 14 < a.size
        · have HV : Hid (parseM l = (0, 22)) := by unfold Hid; rw [← HP.out]; unfold parseP; rw [if_neg HF1.out, if_neg HM.out, if_pos (by rw [HLA.out]; exact h14)]
          cases f with
          | false =>
            cases neg with
            | false => (go_wp2_with (first | (go_at_call 168; refine (CW.out _).mono ?_; rintro e w3 ⟨rfl, hww⟩; subst w3) | (go_at_call 169; refine (CC.out _).mono ?_; rintro e w3 ⟨rfl, hww⟩; subst w3)); go_ret2; exact ⟨ret_pair HV.out, hb2⟩)
            | true =>
              cases z with
              | true => cases hm
              | false => (go_wp2_with (first | (go_at_call 168; refine (CW.out _).mono ?_; rintro e w3 ⟨rfl, hww⟩; subst w3) | (go_at_call 169; refine (CC.out _).mono ?_; rintro e w3 ⟨rfl, hww⟩; subst w3)); go_ret2; exact ⟨ret_pair HV.out, hb2⟩)
          | true =>
            rw [HCC.out rfl] at CC
            cases neg with
            | false => (go_wp2_with (first | (go_at_call 168; refine (CW.out _).mono ?_; rintro e w3 ⟨rfl, hww⟩; subst w3) | (go_at_call 169; refine (CC.out _).mono ?_; rintro e w3 ⟨rfl, hww⟩; subst w3)); go_ret2; exact ⟨ret_pair HV.out, hb2⟩)
            | true =>
              cases z with
              | true => (go_wp2_with (first | (go_at_call 168; refine (CW.out _).mono ?_; rintro e w3 ⟨rfl, hww⟩; subst w3) | (go_at_call 169; refine (CC.out _).mono ?_; rintro e w3 ⟨rfl, hww⟩; subst w3)); go_ret2; exact ⟨ret_pair HV.out, hb2⟩)
              | false => (go_wp2_with (first | (go_at_call 168; refine (CW.out _).mono ?_; rintro e w3 ⟨rfl, hww⟩; subst w3) | (go_at_call 169; refine (CC.out _).mono ?_; rintro e w3 ⟨rfl, hww⟩; subst w3)); go_ret2; exact ⟨ret_pair HV.out, hb2⟩)
        · have hgd := (wholeB_good _).1 HW.out
          have N1 := hide (fun w => number_any a w (by omega) hgd.2.1)
          have N2 := hide (fun w => number_any b w (by have := HCB.out.2; omega) HCB.out.1)
          have hv1 := val_ge _ hgd.2.1
          have hv2 := val_lt _ hgd.2.1
          have hv3 := val_ge _ HCB.out.1
          have hv4 := val_lt _ HCB.out.1
          have hv5 := ten_pow_le (k := (strB a).length) (by rw [HLA.out]; omega)
          have hv6 := ten_pow_le (k := (strB b).length) (by rw [HLB.out]; have := HCB.out.2; omega)
          have HQ : Hid (parseM l = if 1000000000000000 < 100 * valM (strB a) + valM (strB b) then (0, 22) else (if neg = true then -(100 * valM (strB a) + valM (strB b)) else 100 * valM (strB a) + valM (strB b), 0)) := by
            unfold Hid; rw [← HP.out]; unfold parseP; rw [if_neg HF1.out, if_neg HM.out, if_neg (by rw [HLA.out]; exact h14)]
          generalize hx : valM (strB a) = x at *
          generalize hy : valM (strB b) = y at *
          have hx1 : x ≤ 100000000000000 := by omega
          have hy1 : y ≤ 100000000000000 := by omega
          clear hv2 hv4 hv5 hv6 hgd hx hy
          have CK := hide (fun w => check_any (100 * x + y) w)
          by_cases hov : 1000000000000000 < 100 * x + y
          · have HV : Hid (parseM l = (0, 22)) := by unfold Hid; rw [HQ.out, if_pos hov]
            rw [checkM_false (may_not (.inr hov))] at CK
            cases f with
            | false =>
              cases neg with
              | false => (go_wp2_with (first | (go_at_call 168; refine (CW.out _).mono ?_; rintro e w3 ⟨rfl, hww⟩; subst w3) | (go_at_call 169; refine (CC.out _).mono ?_; rintro e w3 ⟨rfl, hww⟩; subst w3)); refine (N1.out _).mono ?_; rintro e w4 ⟨rfl, hww⟩; subst w4; go_wp2_with fail; refine (N2.out _).mono ?_; rintro e w4 ⟨rfl, hww⟩; subst w4; go_wp2_with (go_at_call 171; refine (CK.out _).mono ?_; rintro e w3 ⟨rfl, hww⟩; subst w3); go_ret2; exact ⟨ret_pair HV.out, hb2⟩)
              | true =>
                cases z with
                | true => cases hm
                | false => (go_wp2_with (first | (go_at_call 168; refine (CW.out _).mono ?_; rintro e w3 ⟨rfl, hww⟩; subst w3) | (go_at_call 169; refine (CC.out _).mono ?_; rintro e w3 ⟨rfl, hww⟩; subst w3)); refine (N1.out _).mono ?_; rintro e w4 ⟨rfl, hww⟩; subst w4; go_wp2_with fail; refine (N2.out _).mono ?_; rintro e w4 ⟨rfl, hww⟩; subst w4; go_wp2_with (go_at_call 171; refine (CK.out _).mono ?_; rintro e w3 ⟨rfl, hww⟩; subst w3); go_ret2; exact ⟨ret_pair HV.out, hb2⟩)
            | true =>
              rw [HCC.out rfl] at CC
              cases neg with
              | false => (go_wp2_with (first | (go_at_call 168; refine (CW.out _).mono ?_; rintro e w3 ⟨rfl, hww⟩; subst w3) | (go_at_call 169; refine (CC.out _).mono ?_; rintro e w3 ⟨rfl, hww⟩; subst w3)); refine (N1.out _).mono ?_; rintro e w4 ⟨rfl, hww⟩; subst w4; go_wp2_with fail; refine (N2.out _).mono ?_; rintro e w4 ⟨rfl, hww⟩; subst w4; go_wp2_with (go_at_call 171; refine (CK.out _).mono ?_; rintro e w3 ⟨rfl, hww⟩; subst w3); go_ret2; exact ⟨ret_pair HV.out, hb2⟩)
              | true =>
                cases z with
                | true => (go_wp2_with (first | (go_at_call 168; refine (CW.out _).mono ?_; rintro e w3 ⟨rfl, hww⟩; subst w3) | (go_at_call 169; refine (CC.out _).mono ?_; rintro e w3 ⟨rfl, hww⟩; subst w3)); refine (N1.out _).mono ?_; rintro e w4 ⟨rfl, hww⟩; subst w4; go_wp2_with fail; refine (N2.out _).mono ?_; rintro e w4 ⟨rfl, hww⟩; subst w4; go_wp2_with (go_at_call 171; refine (CK.out _).mono ?_; rintro e w3 ⟨rfl, hww⟩; subst w3); go_ret2; exact ⟨ret_pair HV.out, hb2⟩)
                | false => (go_wp2_with (first | (go_at_call 168; refine (CW.out _).mono ?_; rintro e w3 ⟨rfl, hww⟩; subst w3) | (go_at_call 169; refine (CC.out _).mono ?_; rintro e w3 ⟨rfl, hww⟩; subst w3)); refine (N1.out _).mono ?_; rintro e w4 ⟨rfl, hww⟩; subst w4; go_wp2_with fail; refine (N2.out _).mono ?_; rintro e w4 ⟨rfl, hww⟩; subst w4; go_wp2_with (go_at_call 171; refine (CK.out _).mono ?_; rintro e w3 ⟨rfl, hww⟩; subst w3); go_ret2; exact ⟨ret_pair HV.out, hb2⟩)
          · have HV : Hid (parseM l = (if neg = true then -(100 * x + y) else 100 * x + y, 0)) := by unfold Hid; rw [HQ.out, if_neg hov]
            rw [checkM_true (may_mk ⟨by omega, by omega⟩)] at CK
            cases f with
            | false =>
              cases neg with
              | false => (go_wp2_with (first | (go_at_call 168; refine (CW.out _).mono ?_; rintro e w3 ⟨rfl, hww⟩; subst w3) | (go_at_call 169; refine (CC.out _).mono ?_; rintro e w3 ⟨rfl, hww⟩; subst w3)); refine (N1.out _).mono ?_; rintro e w4 ⟨rfl, hww⟩; subst w4; go_wp2_with fail; refine (N2.out _).mono ?_; rintro e w4 ⟨rfl, hww⟩; subst w4; go_wp2_with (go_at_call 171; refine (CK.out _).mono ?_; rintro e w3 ⟨rfl, hww⟩; subst w3); go_ret2; exact ⟨ret_pair HV.out, hb2⟩)
              | true =>
                cases z with
                | true => cases hm
                | false => (go_wp2_with (first | (go_at_call 168; refine (CW.out _).mono ?_; rintro e w3 ⟨rfl, hww⟩; subst w3) | (go_at_call 169; refine (CC.out _).mono ?_; rintro e w3 ⟨rfl, hww⟩; subst w3)); refine (N1.out _).mono ?_; rintro e w4 ⟨rfl, hww⟩; subst w4; go_wp2_with fail; refine (N2.out _).mono ?_; rintro e w4 ⟨rfl, hww⟩; subst w4; go_wp2_with (go_at_call 171; refine (CK.out _).mono ?_; rintro e w3 ⟨rfl, hww⟩; subst w3); go_ret2; exact ⟨ret_pair HV.out, hb2⟩)
            | true =>
              rw [HCC.out rfl] at CC
              cases neg with
              | false => (go_wp2_with (first | (go_at_call 168; refine (CW.out _).mono ?_; rintro e w3 ⟨rfl, hww⟩; subst w3) | (go_at_call 169; refine (CC.out _).mono ?_; rintro e w3 ⟨rfl, hww⟩; subst w3)); refine (N1.out _).mono ?_; rintro e w4 ⟨rfl, hww⟩; subst w4; go_wp2_with fail; refine (N2.out _).mono ?_; rintro e w4 ⟨rfl, hww⟩; subst w4; go_wp2_with (go_at_call 171; refine (CK.out _).mono ?_; rintro e w3 ⟨rfl, hww⟩; subst w3); go_ret2; exact ⟨ret_pair HV.out, hb2⟩)
              | true =>
                cases z with
                | true => (go_wp2_with (first | (go_at_call 168; refine (CW.out _).mono ?_; rintro e w3 ⟨rfl, hww⟩; subst w3) | (go_at_call 169; refine (CC.out _).mono ?_; rintro e w3 ⟨rfl, hww⟩; subst w3)); refine (N1.out _).mono ?_; rintro e w4 ⟨rfl, hww⟩; subst w4; go_wp2_with fail; refine (N2.out _).mono ?_; rintro e w4 ⟨rfl, hww⟩; subst w4; go_wp2_with (go_at_call 171; refine (CK.out _).mono ?_; rintro e w3 ⟨rfl, hww⟩; subst w3); go_ret2; exact ⟨ret_pair HV.out, hb2⟩)
                | false => (go_wp2_with (first | (go_at_call 168; refine (CW.out _).mono ?_; rintro e w3 ⟨rfl, hww⟩; subst w3) | (go_at_call 169; refine (CC.out _).mono ?_; rintro e w3 ⟨rfl, hww⟩; subst w3)); refine (N1.out _).mono ?_; rintro e w4 ⟨rfl, hww⟩; subst w4; go_wp2_with fail; refine (N2.out _).mono ?_; rintro e w4 ⟨rfl, hww⟩; subst w4; go_wp2_with (go_at_call 171; refine (CK.out _).mono ?_; rintro e w3 ⟨rfl, hww⟩; subst w3); go_ret2; exact ⟨ret_pair HV.out, hb2⟩)

end Go.Proofs.YthnjmfkiohgkkaaGreatDoor.Mo
