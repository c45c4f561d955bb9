import Derived.Test.YtbpphlmakmeoaaaGreatDoorProg
import Derived.WalkKit
import Derived.WalkSpells
import Derived.WalkLawsBesides
import Derived.Laws.BytesArg
import Derived.Deep.DeepCutAuto
import Derived.Deep.CutBlock
import Derived.Test.YtbpphlmakmeoaaaGreatDoorShelf
import Derived.Lib.IndexLaws
set_option maxRecDepth 100000
set_option maxHeartbeats 6000000
namespace Go.Proofs.YtbpphlmakmeoaaaGreatDoor.Mo
open Go.RowKit
theorem ec {p : Prop} (h : p) : Hid p := h
structure Nums (q : IntKind) (w : World) (a : Option Addr) (zs : List Int) : Prop where
  cells : zs ≠ [] → ∃ b off, a = some ⟨b, off, none⟩ ∧ ∀ i, i < zs.length → w.cell? ⟨b, off + i, none⟩ = some (.int q (zs.getD i 0))
theorem Nums.lt {q : IntKind} {w : World} {b off : Nat} {zs : List Int} (h : ∀ i, i < zs.length → w.cell? ⟨b, off + i, none⟩ = some (.int q (zs.getD i 0))) (hz : zs ≠ []) : b < w.heap.size := by
  have h0 := h 0 (by cases zs with | nil => exact absurd rfl hz | cons _ _ => simp)
  exact World.block_lt_of_cell? w ⟨b, off + 0, none⟩ h0
theorem Nums.below {q : IntKind} {B : Nat} {w w' : World} {a : Option Addr} {zs : List Int} (h : Nums q w a zs) (hb : Below B w w') (hB : w.heap.size ≤ B) : Nums q w' a zs := by
  refine ⟨fun hz => ?_⟩
  obtain ⟨b, off, rfl, hc⟩ := h.cells hz
  have hlt := Nums.lt hc hz
  exact ⟨b, off, rfl, fun i hi => (hb.cell (p := ⟨b, off + i, none⟩) (by simp; omega)).trans (hc i hi)⟩
theorem Nums.drew {q : IntKind} {w : World} {a : Option Addr} {zs : List Int} (h : Nums q w a zs) : Nums q w.drew a zs := ⟨h.cells⟩
theorem rd (zs : List Int) (k : Nat) (h : k < zs.length) : zs.take (k + 1) = zs.take k ++ [zs[k]?.getD 0] := by
  rw [List.take_succ_eq_append_getElem h]; simp [h]
theorem Nums.get {q : IntKind} {B : Nat} {w wr : World} {a : Option Addr} {zs : List Int} {len k : Nat} (h : Nums q w a zs) (hl : zs.length = len) (hb : Below B w wr) (hk : k < len) (hB : w.heap.size ≤ B := by omega) :
    ∃ b off c, a = some ⟨b, off, none⟩ ∧ wr.cell? ⟨b, off + k, none⟩ = some (.int q c) ∧ Hid (zs.take (k + 1) = zs.take k ++ [c]) ∧ Hid (c = zs.getD k 0) ∧ Hid (c ∈ zs) := by
  have hne : zs ≠ [] := by intro e; subst e; simp at hl; omega
  obtain ⟨b, off, rfl, hc⟩ := h.cells hne
  have hlt := Nums.lt hc hne
  have hkl : k < zs.length := by omega
  refine ⟨b, off, zs[k]?.getD 0, rfl, (hb.cell (p := ⟨b, off + k, none⟩) (by simp; omega)).trans ?_, rd zs k hkl, by simp [Hid, List.getD], by simp [Hid, hkl]⟩
  simp
theorem fO {a b : Bool} (h : a = b) : Ending.returned (.bool a) = .returned (.bool b) := by rw [h]
end Go.Proofs.YtbpphlmakmeoaaaGreatDoor.Mo
namespace Go.Proofs.YtbpphlmakmeoaaaGreatDoor.Mo
open Go.RowKit
def kT (m : Int) : Bool := decide (-1000000000000000 ≤ m ∧ m ≤ 1000000000000000)
theorem may_yes {m : Int} (h : kT m = true) : -1000000000000000 ≤ m ∧ m ≤ 1000000000000000 := of_decide_eq_true h
theorem tr {m : Int} (h : -1000000000000000 ≤ m ∧ m ≤ 1000000000000000) : kT m = true := decide_eq_true h
theorem zQ {m : Int} (h : m < -1000000000000000 ∨ 1000000000000000 < m) : kT m = false := decide_eq_false (by omega)
def pairV (r : Int × Int) : Value := .tuple #[.int .i64 r.1, .int .i64 r.2]
theorem gr {x e : Int} {r : Int × Int} (h : r = (x, e)) : Ending.returned (.tuple #[.int .i64 x, .int .i64 e]) = .returned (pairV r) := by rw [h]; rfl
def O5 (l : List Int) : Int × Int := if (∀ z ∈ l, kT z = true) ∧ kT l.sum = true then (l.sum, 0) else (0, 22)
end Go.Proofs.YtbpphlmakmeoaaaGreatDoor.Mo
namespace Go.Proofs.YtbpphlmakmeoaaaGreatDoor.Mo
open Go.RowKit
theorem mj {a b : Int} (h : a = b) : Ending.returned (.int .i64 a) = .returned (.int .i64 b) := by rw [h]
def jw (m : Int) : Int := if kT m then 0 else 22
def O7 (a b : Int) : Int := if a < b then -1 else if b < a then 1 else 0
def N6 (m l u : Int) : Int × Int :=
  if kT m = false ∨ kT l = false ∨ kT u = false then (0, 22) else if u < l then (0, 1) else if m < l then (l, 0) else if u < m then (u, 0) else (m, 0)
end Go.Proofs.YtbpphlmakmeoaaaGreatDoor.Mo
namespace Go.Proofs.YtbpphlmakmeoaaaGreatDoor.Mo
open Go.RowKit
theorem lV (m : Int) (w : World) : Calls Tryz.prog 256 #[.int .i64 m] w fun e w' => e = .returned (.int .i64 (jw m)) ∧ w' = w := by
  by_cases h1 : m < -1000000000000000
  · have HV : Hid (jw m = 22) := by unfold Hid jw kT; simp; omega
    go_enter Tryz.func256, Tryz.ntmps256
    go_wp2
    go_ret
    exact ⟨mj HV.out.symm, rfl⟩
  · by_cases h2 : 1000000000000000 < m
    · have HV : Hid (jw m = 22) := by unfold Hid jw kT; simp; omega
      go_enter Tryz.func256, Tryz.ntmps256
      go_wp2
      go_ret
      exact ⟨mj HV.out.symm, rfl⟩
    · have HV : Hid (jw m = 0) := by unfold Hid jw kT; simp; omega
      go_enter Tryz.func256, Tryz.ntmps256
      go_wp2
      go_ret
      exact ⟨mj HV.out.symm, rfl⟩
end Go.Proofs.YtbpphlmakmeoaaaGreatDoor.Mo
namespace Go.Proofs.YtbpphlmakmeoaaaGreatDoor.Mo
open Go.RowKit
theorem oh {m : Int} (h : kT m = true) : jw m = 0 := by unfold jw; rw [h]; rfl
theorem nA {m : Int} (h : kT m = false) : jw m = 22 := by unfold jw; rw [h]; rfl
end Go.Proofs.YtbpphlmakmeoaaaGreatDoor.Mo
namespace Go.Proofs.YtbpphlmakmeoaaaGreatDoor.Mo
open Go.RowKit
def decD : Nat → Int → List Int
  | 0, n => [48 + n]
  | f + 1, n => if n < 10 then [48 + n] else decD f (n / 10) ++ [48 + n % 10]
theorem zd (a b : List Int) : strOfNums a ++ strOfNums b = strOfNums (a ++ b) := by
  unfold strOfNums
  apply ByteArray.ext
  rw [ByteArray.data_append]
  simp
def M5 (f : Nat) (m : Int) : List Int := if m = 0 then [] else decD f m
end Go.Proofs.YtbpphlmakmeoaaaGreatDoor.Mo
namespace Go.Proofs.YtbpphlmakmeoaaaGreatDoor.Mo
open Go.RowKit
def centsB (m : Int) : List Int := decD 20 (m / 100) ++ (if m % 100 = 0 then [] else [46, 48 + m % 100 / 10, 48 + m % 10])
def textM (m : Int) : List Int := if m < 0 then 45 :: centsB (-m) else centsB m
theorem decD_len : ∀ (f : Nat) (n : Int), (decD f n).length ≤ f + 1 := by
  intro f
  induction f with
  | zero => intro n; simp [decD]
  | succ f ih => intro n; rw [decD]; split
                 · simp
                 · have := ih (n / 10); simp; omega
theorem rC : (⟨#[]⟩ : ByteArray) = strOfNums [] := rfl
theorem rO : (⟨#[45]⟩ : ByteArray) = strOfNums [45] := rfl
theorem rD : (⟨#[46]⟩ : ByteArray) = strOfNums [46] := rfl
theorem uF {a b : ByteArray} (h : a = b) : Ending.returned (.string a) = .returned (.string b) := by rw [h]
def printM (m : Int) : List Int × Int := if kT m = true then (textM m, 0) else ([], 22)
end Go.Proofs.YtbpphlmakmeoaaaGreatDoor.Mo
namespace Go.Proofs.YtbpphlmakmeoaaaGreatDoor.Mo
open Go.RowKit
def strB (s : ByteArray) : List Int := s.data.toList.map fun b => (b.toNat : Int)
theorem jG (s : ByteArray) : (strB s).length = s.size := by simp [strB]
theorem pO (s : ByteArray) (k : Nat) (h : k < s.size) : (strB s).getD k 0 = ((s[k]'h).toNat : Int) := by
  have hl : k < (strB s).length := by rw [jG]; exact h
  simp only [List.getD, List.getElem?_eq_getElem hl, Option.getD_some]
  simp [strB]
  rfl
theorem rk (s : ByteArray) (k : Nat) (h : k < s.size) : (s[k]'h).toNat ≤ 255 := by have := (s[k]'h).toNat_lt; omega
def iB (c : Int) : Bool := decide (48 ≤ c ∧ c ≤ 57)
end Go.Proofs.YtbpphlmakmeoaaaGreatDoor.Mo
namespace Go.Proofs.YtbpphlmakmeoaaaGreatDoor.Mo
open Go.RowKit
def iq (l : List Int) : Bool := decide (l.getD 0 0 = 45)
def ie (l : List Int) : Nat := if iq l = true then 1 else 0
def jY (l : List Int) : Nat := ie l + ((l.drop (ie l)).takeWhile iB).length
def mz (l : List Int) : Bool := decide (jY l = ie l ∨ (l.getD (ie l) 0 = 48 ∧ ie l + 1 < jY l))
def mi (l : List Int) (en : Nat) : Bool := decide (l.length ≠ en ∧ ¬ (l.length = en + 3 ∧ l.getD en 0 = 46 ∧ iB (l.getD (en + 1) 0) = true ∧ iB (l.getD (en + 2) 0) = true ∧ ¬ (l.getD (en + 1) 0 = 48 ∧ l.getD (en + 2) 0 = 48)))
def lx (l : List Int) : Bool := decide (ie l = 1 ∧ l.length = 2 ∧ l.getD 1 0 = 48)
def fH (l : List Int) : Int := l.foldl (fun n c => n * 10 + (c - 48)) 0
def oX (l : List Int) : Int := fH ((l.drop (ie l)).take (jY l - ie l)) * 100 + (if l.length = jY l then 0 else (l.getD (jY l + 1) 0 - 48) * 10 + (l.getD (jY l + 2) 0 - 48))
def parseM (l : List Int) : Int × Int :=
  if mz l = true then (0, 21) else if mi l (jY l) = true then (0, 21) else if lx l = true then (0, 21) else if 15 < jY l - ie l then (0, 22) else if 1000000000000000 < oX l then (0, 22) else (if iq l = true then -oX l else oX l, 0)
theorem J9 (l : List Int) : ie l ≤ l.length := by
  unfold ie iq
  cases l with
  | nil => simp
  | cons a l => split <;> simp
theorem wrap_i64 (n : Int) (h : -9223372036854775808 ≤ n ∧ n ≤ 9223372036854775807) : IntKind.i64.wrap n = n := by
  simp only [IntKind.wrap, IntKind.bits, IntKind.signed]
  simp
  omega
theorem A3 {s : ByteArray} (h : s.size = 0) : s.toList.isEmpty = true := by
  rw [ByteArray.toList_eq]
  simp only [List.isEmpty_iff]
  exact List.eq_nil_of_length_eq_zero (by simpa using h)
theorem I4 {s : ByteArray} (h : s.size ≠ 0) : s.toList.isEmpty = false := by
  rw [ByteArray.toList_eq]
  cases hh : s.data.toList with
  | nil => exact absurd (by have := congrArg List.length hh; simpa using this) h
  | cons _ _ => rfl
end Go.Proofs.YtbpphlmakmeoaaaGreatDoor.Mo
namespace Go.Proofs.YtbpphlmakmeoaaaGreatDoor.Mo
open Go.RowKit
def fE (l : List Int) : Bool := l.all iB
theorem D2 {l : List Int} (h : ∀ i, i < l.length → iB (l.getD i 0) = true) : fE l = true := by
  unfold fE
  rw [List.all_eq_true]
  intro x hx
  obtain ⟨i, hi, rfl⟩ := List.getElem_of_mem hx
  have := h i hi
  simpa [List.getD, hi] using this
theorem ka {l : List Int} (h : fE l = true) : ∀ i, i < l.length → iB (l.getD i 0) = true := by
  intro i hi
  unfold fE at h
  rw [List.all_eq_true] at h
  exact h _ (by simp [List.getD, hi])
theorem uI {l : List Int} {k : Nat} (hk : k < l.length) (h : iB (l.getD k 0) = false) : fE l = false := by
  cases ha : fE l with
  | false => rfl
  | true => have := ka ha k hk; rw [h] at this; cases this
theorem m6 (s : ByteArray) (w : World) (hs : s.size ≤ 140737488355328) : Calls Tryz.prog 337 #[.string s] w fun e w' => e = .returned (.bool (fE (strB s))) ∧ w' = w := by
  have HLL := ec (jG s)
  have HAT := ec (pO s)
  generalize hl : strB s = l at *
  have HS := ec hl
  clear hl
  go_enter Tryz.func337, Tryz.ntmps337
  go_wp2
  go_loop [6] (fun i => ∃ k : Nat, k ≤ s.size ∧ i = .int .i64 k ∧ Hid (∀ i, i < k → iB (l.getD i 0) = true)) (fun i => s.size - (intOf i).toNat)
  case atStart => exact ⟨0, by omega, rfl, fun i h => by omega⟩
  case round =>
    obtain ⟨k, hk, rfl, HD⟩ := hrel
    by_cases hlt : k < s.size
    · have hcb := rk s k hlt
      have HK := ec (HAT.out k hlt)
      by_cases h1 : ((s[k]'hlt).toNat : Int) < 48
      · have HV : Hid (fE l = false) := uI (k := k) (by rw [HLL.out]; exact hlt) (by rw [HK.out]; exact decide_eq_false (by omega))
        go_wp2_with fail
        go_ret
        exact ⟨fO HV.out.symm, rfl⟩
      · have h1b : decide (((s[k]'hlt).toNat : Int) < 48) = false := decide_eq_false h1
        by_cases h2 : (57 : Int) < (s[k]'hlt).toNat
        · have HV : Hid (fE l = false) := uI (k := k) (by rw [HLL.out]; exact hlt) (by rw [HK.out]; exact decide_eq_false (by omega))
          go_wp2_with fail
          go_ret
          exact ⟨fO HV.out.symm, rfl⟩
        · have h2b : decide ((57 : Int) < (s[k]'hlt).toNat) = false := decide_eq_false h2
          have HDN : Hid (∀ i, i < k + 1 → iB (l.getD i 0) = true) := by
            intro i hi
            rcases (show i < k ∨ i = k by omega) with h | rfl
            · exact HD.out i h
            · rw [HK.out]; exact decide_eq_true (by omega)
          go_wp2_with fail
          go_round
          case rel => exact ⟨k + 1, by omega, by go_num, HDN⟩
          case measure => simp [intOf]; omega
    · have HV : Hid (fE l = true) := D2 (fun i hi => HD.out i (by rw [HLL.out] at hi; omega))
      go_wp2_with fail
      go_ret
      exact ⟨fO HV.out.symm, rfl⟩
theorem tl (l : List Int) (c : Int) : fH (l ++ [c]) = fH l * 10 + (c - 48) := by unfold fH; simp
theorem nG {l : List Int} {k : Nat} (hk : k < l.length) : l.take (k + 1) = l.take k ++ [l.getD k 0] := by
  rw [List.take_add_one]; simp [List.getD, hk]
theorem mJ {k : Nat} (h : k ≤ 14) : (10 : Int) ^ k ≤ 100000000000000 := by
  have : (10 : Nat) ^ k ≤ 10 ^ 14 := Nat.pow_le_pow_right (by decide) h
  have e : ((10 ^ k : Nat) : Int) = (10 : Int) ^ k := by simp
  have e2 : (10 : Nat) ^ 14 = 100000000000000 := by decide
  omega
theorem ki (s : ByteArray) (w : World) (hs : s.size ≤ 14) (hd : fE (strB s) = true) : Calls Tryz.prog 319 #[.string s] w fun e w' => e = .returned (.int .i64 (fH (strB s))) ∧ w' = w := by
  have HLL := ec (jG s)
  have HAT := ec (pO s)
  have HD := ec (ka hd)
  clear hd
  generalize hl : strB s = l at *
  have HS := ec hl
  clear hl
  go_enter Tryz.func319, Tryz.ntmps319
  go_wp2
  go_loop [3, 7] (fun x i => ∃ (k : Nat) (n : Int), k ≤ s.size ∧ i = .int .i64 k ∧ x = .int .i64 n ∧ 0 ≤ n ∧ n ≤ 100000000000000 ∧ Hid (n < 10 ^ k) ∧ Hid (n = fH (l.take k))) (fun _ i => s.size - (intOf i).toNat)
  case atStart => exact ⟨0, 0, by omega, rfl, rfl, by omega, by omega, by simp [Hid], by simp [Hid, fH]⟩
  case round =>
    obtain ⟨k, n, hk, rfl, rfl, hn0, hn1, HP, HN⟩ := hrel
    by_cases hlt : k < s.size
    · have hcb := rk s k hlt
      have HK := ec (HAT.out k hlt)
      have hdg : 48 ≤ ((s[k]'hlt).toNat : Int) ∧ ((s[k]'hlt).toNat : Int) ≤ 57 := by
        have := HD.out k (by rw [HLL.out]; exact hlt)
        rw [HK.out] at this
        exact of_decide_eq_true this
      have hp := HP.out
      have hp13 := mJ (k := k + 1) (by omega)
      have hpe : (10 : Int) ^ (k + 1) = 10 ^ k * 10 := Int.pow_succ _ _
      have HNN : Hid (n * 10 + (((s[k]'hlt).toNat : Int) - 48) = fH (l.take (k + 1))) := by
        unfold Hid; rw [nG (by rw [HLL.out]; exact hlt), tl, ← HN.out, HK.out]
      have HPN : Hid (n * 10 + (((s[k]'hlt).toNat : Int) - 48) < 10 ^ (k + 1)) := by unfold Hid; omega
      have hle : n * 10 + (((s[k]'hlt).toNat : Int) - 48) ≤ 100000000000000 := by omega
      clear hp hp13 hpe
      go_wp2_with fail
      go_round
      case rel => exact ⟨k + 1, n * 10 + (((s[k]'hlt).toNat : Int) - 48), by omega, by go_num, by go_num, by omega, by omega, HPN, HNN⟩
      case measure => simp [intOf]; omega
    · have HV : Hid (n = fH l) := by have := HN.out; rwa [List.take_of_length_le (by rw [HLL.out]; omega)] at this
      go_wp2_with fail
      go_ret
      exact ⟨mj HV.out, rfl⟩
theorem xt (s : ByteArray) : strB s = s.toList.map fun b => (b.toNat : Int) := by unfold strB; rw [ByteArray.toList_eq]
theorem oJ (s : ByteArray) (cs : List UInt8) : (s.toList == cs) = decide (strB s = cs.map fun b => (b.toNat : Int)) := by
  rw [xt]
  by_cases h : s.toList = cs
  · rw [h]; simp
  · rw [decide_eq_false]
    · simpa using h
    · intro hh
      apply h
      exact (List.map_inj_right (fun a b hab => by
        have : a.toNat = b.toNat := Int.ofNat_inj.1 hab
        exact UInt8.toNat_inj.mp this)).1 hh
def il (l : List Int) : Bool := decide (l = [48]) || (decide (l ≠ []) && (decide (l.getD 0 0 ≠ 48) && fE l))
def gK (l : List Int) : Bool := decide (l.length = 2) && (decide (l ≠ [48, 48]) && fE l)
theorem ui (s : ByteArray) (w : World) (hs : s.size ≤ 140737488355328) : Calls Tryz.prog 317 #[.string s] w fun e w' => e = .returned (.bool (il (strB s))) ∧ w' = w := by
  have CD := ec (fun w => m6 s w hs)
  have HLL := ec (jG s)
  have HAT := ec (pO s)
  have he := oJ s [48]
  obtain ⟨z, hz⟩ : ∃ z, z = decide (strB s = [48]) := ⟨_, rfl⟩
  have he' : (s.toList == [48]) = z := by rw [hz]; exact he
  clear he
  generalize hl : strB s = l at *
  clear hl
  cases z with
  | true =>
    have HV : Hid (il l = true) := by unfold Hid il; rw [← hz]; rfl
    clear hz
    go_enter Tryz.func317, Tryz.ntmps317
    go_wp2_with fail
    go_ret
    exact ⟨fO HV.out.symm, rfl⟩
  | false =>
    by_cases h0 : s.size = 0
    · have hem := A3 h0
      have HV : Hid (il l = false) := by unfold Hid il; rw [← hz, List.eq_nil_of_length_eq_zero (HLL.out.trans h0)]; rfl
      clear hz
      go_enter Tryz.func317, Tryz.ntmps317
      go_wp2_with fail
      go_ret
      exact ⟨fO HV.out.symm, rfl⟩
    · have hem := I4 h0
      have h0' : 0 < s.size := by omega
      have hb0 := rk s 0 h0'
      have HNE : Hid (l ≠ []) := by intro h; have := HLL.out; rw [h] at this; simp at this; omega
      cases hm : (((s[0]'h0').toNat : Int) != 48) with
      | false =>
        have HV : Hid (il l = false) := by unfold Hid il; rw [← hz, HAT.out 0 h0']; simp at hm; simp [hm]
        clear hz
        go_enter Tryz.func317, Tryz.ntmps317
        go_wp2_with fail
        go_ret
        exact ⟨fO HV.out.symm, rfl⟩
      | true =>
        have HV : Hid (il l = fE l) := by unfold Hid il; rw [← hz, HAT.out 0 h0', decide_eq_true HNE.out]; simp at hm; simp [hm]
        clear hz
        go_enter Tryz.func317, Tryz.ntmps317
        go_wp2_with (go_at_call 337; refine (CD.out _).mono ?_; rintro e w' ⟨rfl, hww⟩; subst w')
        go_ret
        exact ⟨fO HV.out.symm, rfl⟩
theorem ud (s : ByteArray) (w : World) (hs : s.size ≤ 140737488355328) : Calls Tryz.prog 318 #[.string s] w fun e w' => e = .returned (.bool (gK (strB s))) ∧ w' = w := by
  have CD := ec (fun w => m6 s w hs)
  have HLL := ec (jG s)
  have he := oJ s [48, 48]
  obtain ⟨z, hz⟩ : ∃ z, z = decide (strB s = [48, 48]) := ⟨_, rfl⟩
  have he' : (s.toList == [48, 48]) = z := by rw [hz]; exact he
  clear he
  generalize hl : strB s = l at *
  clear hl
  by_cases h2 : s.size = 2
  · have h2b : ((s.size : Int) == 2) = true := by simp [h2]
    cases z with
    | true =>
      have HV : Hid (gK l = false) := by unfold Hid gK; have := of_decide_eq_true hz.symm; rw [this]; rfl
      clear hz h2
      go_enter Tryz.func318, Tryz.ntmps318
      go_wp2_with fail
      go_ret
      exact ⟨fO HV.out.symm, rfl⟩
    | false =>
      have HV : Hid (gK l = fE l) := by unfold Hid gK; have := of_decide_eq_false hz.symm; rw [decide_eq_true (HLL.out.trans h2), decide_eq_true this]; rfl
      clear hz h2
      go_enter Tryz.func318, Tryz.ntmps318
      go_wp2_with (go_at_call 337; refine (CD.out _).mono ?_; rintro e w' ⟨rfl, hww⟩; subst w')
      go_ret
      exact ⟨fO HV.out.symm, rfl⟩
  · have h2b : ((s.size : Int) == 2) = false := by simp; omega
    have HV : Hid (gK l = false) := by unfold Hid gK; rw [HLL.out, decide_eq_false h2]; rfl
    clear h2
    go_enter Tryz.func318, Tryz.ntmps318
    go_wp2_with fail
    go_ret
    exact ⟨fO HV.out.symm, rfl⟩
end Go.Proofs.YtbpphlmakmeoaaaGreatDoor.Mo
namespace Go.Proofs.YtbpphlmakmeoaaaGreatDoor.Mo
def ix (neg : Bool) (ds cs : List Int) : List Int := (if neg then [45] else []) ++ (ds ++ (if cs = [] then [] else 46 :: cs))
def js (ds : List Int) : Prop := ds ≠ [] ∧ fE ds = true ∧ (ds.length = 1 ∨ ds.getD 0 0 ≠ 48)
def I3 (cs : List Int) : Prop := cs = [] ∨ (cs.length = 2 ∧ fE cs = true ∧ ¬ (cs.getD 0 0 = 48 ∧ cs.getD 1 0 = 48))
structure Good (neg : Bool) (ds cs : List Int) : Prop where
  d : js ds
  c : I3 cs
  n : ¬ (neg = true ∧ ds = [48] ∧ cs = [])
theorem yX (neg : Bool) (ds cs : List Int) : (ix neg ds cs).length = (if neg then 1 else 0) + ds.length + (if cs = [] then 0 else cs.length + 1) := by
  unfold ix; cases neg <;> by_cases h : cs = [] <;> simp [h] <;> omega
theorem fL (l : List Int) (a i : Nat) : (l.drop a).getD i 0 = l.getD (a + i) 0 := by simp [List.getD]
theorem oK (a b : List Int) (i : Nat) : (a ++ b).getD (a.length + i) 0 = b.getD i 0 := by
  simp only [List.getD, List.getElem?_append_right (Nat.le_add_right _ _), Nat.add_sub_cancel_left]
theorem E4 {c : Int} (h : iB c = true) : c ≠ 45 ∧ c ≠ 46 := by have := of_decide_eq_true h; omega
theorem my {neg : Bool} {ds cs : List Int} (h : js ds) : ie (ix neg ds cs) = if neg then 1 else 0 := by
  unfold ie iq ix
  cases neg
  · obtain ⟨h1, h2, _⟩ := h
    cases ds with
    | nil => exact absurd rfl h1
    | cons a l =>
      have := ka h2 0 (by simp)
      simp at this
      have := (E4 this).1
      simp [this]
  · simp
theorem ns {neg : Bool} {ds cs : List Int} (h : js ds) : (ix neg ds cs).drop (ie (ix neg ds cs)) = ds ++ (if cs = [] then [] else 46 :: cs) := by
  rw [my h]
  unfold ix
  cases neg <;> simp
theorem rY (ds rest : List Int) (h : fE ds = true) (hr : rest = [] ∨ iB (rest.getD 0 0) = false) : (ds ++ rest).takeWhile iB = ds := by
  induction ds with
  | nil =>
    rcases hr with rfl | hr
    · rfl
    · cases rest with
      | nil => rfl
      | cons a l => simp at hr; simp [hr]
  | cons a l ih =>
    unfold fE at h
    simp at h
    simp [h.1]
    exact ih (by unfold fE; simpa using h.2)
theorem yi {neg : Bool} {ds cs : List Int} (h : js ds) : jY (ix neg ds cs) = (if neg then 1 else 0) + ds.length := by
  unfold jY
  rw [ns h, my h, rY ds _ h.2.1]
  by_cases hc : cs = []
  · left; simp [hc]
  · right; simp [hc]; decide
def iL (ds cs : List Int) : Int := fH ds * 100 + fH cs
theorem yh {l : List Int} (h : (parseM l).2 = 21) : parseM l = (0, 21) := by
  unfold parseM at *
  split at h
  · rw [if_pos (by assumption)]
  · rw [if_neg (by assumption)]
    split at h
    · rw [if_pos (by assumption)]
    · rw [if_neg (by assumption)]
      split at h
      · rw [if_pos (by assumption)]
      · split at h
        · cases h
        · split at h <;> cases h
theorem sV {neg : Bool} {ds cs : List Int} (h : js ds) : iq (ix neg ds cs) = neg := by
  have h1 := my (neg := neg) (cs := cs) h
  unfold ie at h1
  cases h2 : iq (ix neg ds cs) <;> cases neg <;> simp [h2] at h1 <;> rfl
theorem yy {neg : Bool} {ds cs : List Int} (h : js ds) (i : Nat) : (ix neg ds cs).getD ((if neg = true then 1 else 0) + i) 0 = (ds ++ (if cs = [] then [] else 46 :: cs)).getD i 0 := by
  rw [← ns (neg := neg) (cs := cs) h, fL, my h]
theorem pN (a b : Int) : fH [a, b] = (a - 48) * 10 + (b - 48) := by unfold fH; simp
theorem pC {cs : List Int} (h : cs.length = 2) : cs = [cs.getD 0 0, cs.getD 1 0] := by
  match cs, h with
  | [a, b], _ => rfl
theorem pK {neg : Bool} {ds cs : List Int} (h : Good neg ds cs) :
    parseM (ix neg ds cs) = if 15 < ds.length then (0, 22) else if 1000000000000000 < iL ds cs then (0, 22) else (if neg = true then -iL ds cs else iL ds cs, 0) := by
  obtain ⟨hd, hc, hn⟩ := h
  obtain ⟨N, hN⟩ : ∃ N, N = (if neg = true then 1 else 0 : Nat) := ⟨_, rfl⟩
  have eA := my (neg := neg) (cs := cs) hd
  have eE := yi (neg := neg) (cs := cs) hd
  have eL := yX neg ds cs
  have eG := yy (neg := neg) (cs := cs) hd
  have eD := ns (neg := neg) (cs := cs) hd
  have hN1 : N ≤ 1 := by rw [hN]; split <;> omega
  have hlen : 0 < ds.length := List.length_pos_iff.2 hd.1
  rw [← hN] at eA eE eL
  rw [← hN] at eG
  have e1 : mz (ix neg ds cs) = false := by
    unfold mz
    rw [eE, eA]
    refine decide_eq_false (fun hh => ?_)
    rcases hh with hh | ⟨h1, h2⟩
    · omega
    · have h3 := eG 0
      rw [Nat.add_zero, h1] at h3
      have h4 : (ds ++ (if cs = [] then [] else 46 :: cs)).getD 0 0 = ds.getD 0 0 := by
        cases ds with
        | nil => exact absurd rfl hd.1
        | cons a l => rfl
      rw [h4] at h3
      rcases hd.2.2 with h5 | h5
      · omega
      · exact h5 h3.symm
  have e2 : mi (ix neg ds cs) (N + ds.length) = false := by
    unfold mi
    refine decide_eq_false (fun hh => ?_)
    obtain ⟨h1, h2⟩ := hh
    rcases hc with hc | ⟨hc1, hc2, hc3⟩
    · rw [eL, if_pos hc] at h1; omega
    · have hne : cs ≠ [] := by intro h; rw [h] at hc1; cases hc1
      apply h2
      have g : ∀ i, (ix neg ds cs).getD (N + ds.length + i) 0 = (46 :: cs).getD i 0 := by
        intro i
        rw [Nat.add_assoc, eG, if_neg hne, oK]
      refine ⟨by rw [eL, if_neg hne]; omega, by have := g 0; rwa [Nat.add_zero] at this, ?_, ?_, ?_⟩
      · rw [g 1]; exact ka hc2 0 (by omega)
      · rw [g 2]; exact ka hc2 1 (by omega)
      · rw [g 1, g 2]; exact hc3
  have e3 : lx (ix neg ds cs) = false := by
    unfold lx
    refine decide_eq_false (fun hh => ?_)
    obtain ⟨h1, h2, h3⟩ := hh
    rw [eA] at h1
    have hneg : neg = true := by cases neg with
      | true => rfl
      | false => simp at hN; omega
    rw [eL] at h2
    rcases hc with hc | ⟨hc1, _, _⟩
    · rw [if_pos hc] at h2
      apply hn
      refine ⟨hneg, ?_, hc⟩
      have hl1 : ds.length = 1 := by omega
      have h4 := eG 0
      rw [h1, Nat.add_zero, h3] at h4
      match ds, hl1 with
      | [a], _ =>
        simp at h4
        rw [← h4]
    · have hne : cs ≠ [] := by intro h; rw [h] at hc1; cases hc1
      rw [if_neg hne] at h2; omega
  have e4 : oX (ix neg ds cs) = iL ds cs := by
    unfold oX iL
    rw [eD, eE, eA, show N + ds.length - N = ds.length by omega, List.take_left' rfl]
    congr 1
    rcases hc with hc | ⟨hc1, hc2, hc3⟩
    · rw [if_pos (by rw [eL, if_pos hc]; omega), hc]; rfl
    · have hne : cs ≠ [] := by intro h; rw [h] at hc1; cases hc1
      rw [if_neg (by rw [eL, if_neg hne]; omega)]
      have g : ∀ i, (ix neg ds cs).getD (N + ds.length + i) 0 = (46 :: cs).getD i 0 := by
        intro i
        rw [Nat.add_assoc, eG, if_neg hne, oK]
      rw [g 1, g 2]
      conv => rhs; rw [pC hc1, pN]
      rfl
  unfold parseM
  rw [e1, eE, e2, e3, eA, e4, sV hd, show N + ds.length - N = ds.length by omega]
  simp
theorem oP {l : List Int} (h : (parseM l).2 ≠ 21) : ∃ neg ds cs, Good neg ds cs ∧ l = ix neg ds cs := by
  have h1 : mz l = false := by
    cases hh : mz l with
    | false => rfl
    | true => exfalso; apply h; unfold parseM; rw [if_pos hh]
  have h2 : mi l (jY l) = false := by
    cases hh : mi l (jY l) with
    | false => rfl
    | true => exfalso; apply h; unfold parseM; rw [if_neg (by rw [h1]; simp), if_pos hh]
  have h3 : lx l = false := by
    cases hh : lx l with
    | false => rfl
    | true => exfalso; apply h; unfold parseM; rw [if_neg (by rw [h1]; simp), if_neg (by rw [h2]; simp), if_pos hh]
  clear h
  have h1 := of_decide_eq_false h1
  have h2 := of_decide_eq_false h2
  have h3 := of_decide_eq_false h3
  obtain ⟨D, hD⟩ : ∃ D, D = l.drop (ie l) := ⟨_, rfl⟩
  obtain ⟨ds, hds⟩ : ∃ ds, ds = D.takeWhile iB := ⟨_, rfl⟩
  obtain ⟨R, hR⟩ : ∃ R, R = D.dropWhile iB := ⟨_, rfl⟩
  have hDR : D = ds ++ R := by rw [hds, hR]; exact (List.takeWhile_append_dropWhile).symm
  have hE : jY l = ie l + ds.length := by unfold jY; rw [← hD, ← hds]
  have hat := J9 l
  have hlD : D.length = l.length - ie l := by rw [hD, List.length_drop]
  have hlen : l.length = ie l + ds.length + R.length := by
    have := congrArg List.length hDR
    rw [List.length_append] at this
    omega
  have gD : ∀ i, l.getD (ie l + i) 0 = D.getD i 0 := fun i => by rw [hD, fL]
  have gR : ∀ i, l.getD (ie l + ds.length + i) 0 = R.getD i 0 := fun i => by
    rw [Nat.add_assoc, gD, hDR, oK]
  have hne : ds ≠ [] := by intro hh; apply h1; left; rw [hE, hh]; rfl
  have hdl : 0 < ds.length := List.length_pos_iff.2 hne
  have hdig : fE ds = true := by
    unfold fE; rw [hds]; exact List.all_takeWhile
  have hg0 : D.getD 0 0 = ds.getD 0 0 := by
    rw [hDR]
    cases ds with
    | nil => exact absurd rfl hne
    | cons a l => rfl
  have hGD : js ds := by
    refine ⟨hne, hdig, ?_⟩
    by_cases h48 : ds.getD 0 0 = 48
    · left
      have : ¬ (ie l + 1 < jY l) := fun hh => h1 (.inr ⟨by have := gD 0; rw [Nat.add_zero] at this; rw [this, hg0]; exact h48, hh⟩)
      omega
    · right; exact h48
  have hsg : l = (if iq l = true then [45] else []) ++ D := by
    rw [hD]
    unfold ie
    cases hn : iq l with
    | false => simp
    | true =>
      have := of_decide_eq_true hn
      cases l with
      | nil => simp at this
      | cons a l => simp at this; simp [this]
  rw [hE] at h2
  by_cases hR0 : R = []
  · refine ⟨iq l, ds, [], ⟨hGD, .inl rfl, ?_⟩, ?_⟩
    · rintro ⟨n1, n2, _⟩
      apply h3
      have ha1 : ie l = 1 := by unfold ie; rw [if_pos n1]
      refine ⟨ha1, by rw [hlen, hR0, n2, ha1]; rfl, ?_⟩
      have := gD 0
      rw [ha1] at this
      rw [this, hg0, n2]; rfl
    · unfold ix
      rw [if_pos rfl, List.append_nil]
      conv => lhs; rw [hsg, hDR, hR0, List.append_nil]
  · have hRl : 0 < R.length := List.length_pos_iff.2 hR0
    have h4 : (l.length = ie l + ds.length + 3 ∧ l.getD (ie l + ds.length) 0 = 46 ∧ iB (l.getD (ie l + ds.length + 1) 0) = true ∧ iB (l.getD (ie l + ds.length + 2) 0) = true ∧ ¬ (l.getD (ie l + ds.length + 1) 0 = 48 ∧ l.getD (ie l + ds.length + 2) 0 = 48)) := by
      apply Classical.byContradiction
      intro hh
      exact h2 ⟨by omega, hh⟩
    obtain ⟨k1, k2, k3, k4, k5⟩ := h4
    have kR : R.length = 3 := by omega
    rw [gR 1] at k3 k5
    rw [gR 2] at k4 k5
    have k2' : R.getD 0 0 = 46 := by have := gR 0; rw [Nat.add_zero] at this; rw [← this]; exact k2
    obtain ⟨c, a, b, rfl⟩ : ∃ c a b, R = [c, a, b] := by
      match R, kR with
      | [c, a, b], _ => exact ⟨c, a, b, rfl⟩
    simp at k2' k3 k4 k5
    refine ⟨iq l, ds, [a, b], ⟨hGD, .inr ⟨rfl, by unfold fE; simp [k3, k4], by simpa using k5⟩, ?_⟩, ?_⟩
    · rintro ⟨_, _, n3⟩; cases n3
    · have hc : ix (iq l) ds [a, b] = (if iq l = true then [45] else []) ++ (ds ++ [46, a, b]) := by unfold ix; simp
      rw [hc]
      conv => lhs; rw [hsg, hDR, k2']
end Go.Proofs.YtbpphlmakmeoaaaGreatDoor.Mo
namespace Go.Proofs.YtbpphlmakmeoaaaGreatDoor.Mo
open Go.RowKit
theorem pi (s : ByteArray) (k : Nat) (c : UInt8) (h : s.data.toList[k]? = some c) : (strB s).getD k 0 = (c.toNat : Int) := by
  unfold strB
  simp only [List.getD, List.getElem?_map, h, Option.map_some, Option.getD_some]
theorem wT (s : ByteArray) : (Lib.indexByte s.data.toList 46 = -1 ∧ ∀ k, k < s.size → (strB s).getD k 0 ≠ 46) ∨
    (∃ k : Nat, k < s.size ∧ Lib.indexByte s.data.toList 46 = k ∧ (strB s).getD k 0 = 46 ∧ ∀ i, i < k → (strB s).getD i 0 ≠ 46) := by
  have key : ∀ i (hi : i < s.size), s.data.toList[i]? ≠ some 46 → (strB s).getD i 0 ≠ 46 := by
    intro i hi h hh
    apply h
    have hi' : i < s.data.toList.length := by simpa using hi
    rw [List.getElem?_eq_getElem hi']
    congr 1
    have := pi s i _ (List.getElem?_eq_getElem hi')
    rw [hh] at this
    have h2 : (46 : UInt8).toNat = s.data.toList[i].toNat := by
      have : (46 : Int) = (s.data.toList[i].toNat : Int) := this
      have h3 : (46 : UInt8).toNat = 46 := rfl
      omega
    exact (UInt8.toNat_inj.1 h2).symm
  rcases (show Lib.indexByte s.data.toList 46 = -1 ∨ 0 ≤ Lib.indexByte s.data.toList 46 by have := Lib.indexByte_ge s.data.toList 46; omega) with h | h
  · exact .inl ⟨h, fun k hk => key k hk (Lib.indexByte_none h k)⟩
  · obtain ⟨k, hk⟩ := Int.eq_ofNat_of_zero_le h
    have hs := Lib.indexByte_some hk
    have hlt : k < s.size := by
      rcases Nat.lt_or_ge k s.size with h' | h'
      · exact h'
      · have := hs.1
        rw [List.getElem?_eq_none (by simpa using h')] at this
        cases this
    exact .inr ⟨k, hlt, hk, pi s k 46 hs.1, fun i hi => key i (by omega) (hs.2 i hi)⟩
theorem rA (s : ByteArray) (w : World) :
    Calls Tryz.prog 338 #[.string s, .string ⟨#[46]⟩] w fun e w' => e = .returned (.int .i64 (Lib.indexByte s.data.toList 46)) ∧ w' = w := by
  have CI := ec (fun w => Tryz.stringslite_IndexByte s 46 w)
  rw [show (Int.toNat 46).toUInt8 = 46 from rfl] at CI
  cases h : ([46] == s.toList) with
  | true =>
    have HV : Hid (Lib.indexByte s.data.toList 46 = 0) := by
      have h1 : s.toList = [46] := (by simpa using h : [46] = s.toList).symm
      rw [ByteArray.toList_eq] at h1
      unfold Hid
      rw [h1]; rfl
    go_enter Tryz.func338, Tryz.ntmps338
    go_wp2_with (go_at_call 353; refine (CI.out _).mono ?_; rintro e w' ⟨rfl, hww⟩; subst w')
    go_ret
    exact ⟨mj HV.out.symm, rfl⟩
  | false =>
    go_enter Tryz.func338, Tryz.ntmps338
    go_wp2_with (go_at_call 353; refine (CI.out _).mono ?_; rintro e w' ⟨rfl, hww⟩; subst w')
    go_ret
    exact ⟨rfl, rfl⟩
theorem vZ (s : ByteArray) (w : World) (h : Lib.indexByte s.data.toList 46 = -1) :
    Calls Tryz.prog 336 #[.string s, .string ⟨#[46]⟩] w fun e w' => e = .returned (.tuple #[.string s, .string ⟨#[]⟩, .bool false]) ∧ w' = w := by
  have CI := ec (fun w => rA s w)
  rw [h] at CI
  clear h
  go_enter Tryz.func336, Tryz.ntmps336
  go_wp2_with (go_at_call 338; refine (CI.out _).mono ?_; rintro e w' ⟨rfl, hww⟩; subst w')
  go_ret3
  exact ⟨rfl, rfl⟩
theorem yQ (s : ByteArray) (w : World) (h : Lib.indexByte s.data.toList 46 = -1) :
    Calls Tryz.prog 316 #[.string s, .string ⟨#[46]⟩] w fun e w' => e = .returned (.tuple #[.string s, .string ⟨#[]⟩, .bool false]) ∧ w' = w := by
  have CI := ec (fun w => vZ s w h)
  clear h
  go_enter Tryz.func316, Tryz.ntmps316
  go_wp2_with (go_at_call 336; refine (CI.out _).mono ?_; rintro e w' ⟨rfl, hww⟩; subst w')
  go_ret3
  exact ⟨rfl, rfl⟩
theorem xF (s : ByteArray) (w : World) (hs : s.size ≤ 140737488355328) (k : Nat) (hk : k < s.size) (h : Lib.indexByte s.data.toList 46 = k) :
    Calls Tryz.prog 336 #[.string s, .string ⟨#[46]⟩] w fun e w' => e = .returned (.tuple #[.string (s.extract 0 k), .string (s.extract (k + 1) s.size), .bool true]) ∧ Below w.heap.size w w' := by
  have CI := ec (fun w => rA s w)
  rw [h] at CI
  have c1 : (0 : Int) ≤ ↑k := by omega
  have c2 : (↑k : Int) ≤ ↑s.size := by omega
  have c3 : (0 : Int) ≤ ↑k + 1 := by omega
  have c4 : (↑k + 1 : Int) ≤ ↑s.size := by omega
  have c5 : IntKind.i64.wrap ((k : Int) + 1) = (k : Int) + 1 := by rw [IntKind.wrap_i64]; omega
  have c6 : ((k : Int) + 1).toNat = k + 1 := by omega
  clear h
  go_enter Tryz.func336, Tryz.ntmps336
  go_wp2_with (go_at_call 338; refine (CI.out _).mono ?_; rintro e w' ⟨rfl, hww⟩; subst w')
  go_region
  go_wp2
  go_ret3
  exact ⟨rfl, ⟨rfl, rfl, rfl, Nat.le_refl _, fun _ _ => rfl⟩⟩
theorem zg (s : ByteArray) (w : World) (hs : s.size ≤ 140737488355328) (k : Nat) (hk : k < s.size) (h : Lib.indexByte s.data.toList 46 = k) :
    Calls Tryz.prog 316 #[.string s, .string ⟨#[46]⟩] w fun e w' => e = .returned (.tuple #[.string (s.extract 0 k), .string (s.extract (k + 1) s.size), .bool true]) ∧ Below w.heap.size w w' := by
  have CI := ec (fun w => xF s w hs k hk h)
  clear h
  go_enter Tryz.func316, Tryz.ntmps316
  go_wp2_with (go_at_call 336; refine (CI.out _).mono ?_; rintro e w1 ⟨rfl, hb1⟩)
  go_ret3
  exact ⟨rfl, hb1⟩
theorem ly (s : ByteArray) (a b : Nat) : strB (s.extract a b) = ((strB s).take b).drop a := by
  unfold strB
  rw [ByteArray.data_extract]
  simp [List.extract, List.map_take, List.map_drop, List.drop_take]
theorem rX (s : ByteArray) (w : World) : Calls Tryz.prog 315 #[.string s, .string ⟨#[45]⟩] w fun e w' => ∃ d : ByteArray, e = .returned (.tuple #[.string d, .bool (iq (strB s))]) ∧ strB d = (strB s).drop (ie (strB s)) ∧ d.size ≤ s.size ∧ w' = w := by
  refine (Tryz.strings_CutPrefix s ⟨#[45]⟩ w).mono ?_
  rintro e w' ⟨rfl, rfl⟩
  have e1 : Lib.hasPrefix s.data.toList [45] = iq (strB s) := by
    unfold Lib.hasPrefix iq strB
    cases s.data.toList with
    | nil => rfl
    | cons a l =>
      simp only [List.isPrefixOf, List.map_cons, List.getD_cons_zero, Bool.and_true]
      by_cases h : a = 45
      · subst h; rfl
      · rw [decide_eq_false]
        · simpa using fun hh => h hh.symm
        · intro hh
          apply h
          have h3 : (45 : UInt8).toNat = 45 := rfl
          exact UInt8.toNat_inj.1 (by omega)
  refine ⟨_, by rw [e1], ?_, ?_, rfl⟩
  · have : Lib.trimPrefix s.data.toList [45] = s.data.toList.drop (ie (strB s)) := by
      unfold Lib.trimPrefix ie
      rw [e1]
      cases iq (strB s) <;> simp
    show (Lib.trimPrefix s.data.toList [45]).map _ = _
    rw [this]
    unfold strB
    rw [List.map_drop]
  · show (Lib.trimPrefix s.data.toList [45]).length ≤ _
    unfold Lib.trimPrefix
    split
    · rw [List.length_drop]; simp
    · simp
theorem vD {l : List Int} {k : Nat} (hk : k < l.length) : l = l.take k ++ l.getD k 0 :: l.drop (k + 1) := by
  have h1 : l.drop k = l[k] :: l.drop (k + 1) := List.drop_eq_getElem_cons hk
  have h2 : l.getD k 0 = l[k] := by simp [List.getD, hk]
  rw [h2, ← h1, List.take_append_drop]
theorem nr {l : List Int} {k : Nat} {c : Int} (h : ∀ i, i < k → l.getD i 0 ≠ c) : c ∉ l.take k := by
  intro hm
  obtain ⟨i, hi, e⟩ := List.getElem_of_mem hm
  have h1 : i < k := by simp at hi; omega
  have h2 : i < l.length := by simp at hi; omega
  have := h i h1
  apply this
  rw [← e]
  simp [List.getD, h2]
theorem zz (s : ByteArray) (w : World) (hs : s.size ≤ 140737488355328) :
    Calls Tryz.prog 316 #[.string s, .string ⟨#[46]⟩] w fun e w' => ∃ (a b : ByteArray) (f : Bool), e = .returned (.tuple #[.string a, .string b, .bool f]) ∧ a.size ≤ s.size ∧ b.size ≤ s.size ∧
      strB s = strB a ++ (if f = true then 46 :: strB b else []) ∧ 46 ∉ strB a ∧ (f = false → strB b = []) ∧ Below w.heap.size w w' := by
  have hlen := jG s
  rcases wT s with ⟨h, hn⟩ | ⟨k, hk, h, hd, hn⟩
  · refine (yQ s w h).mono ?_
    rintro e w' ⟨rfl, rfl⟩
    refine ⟨s, ⟨#[]⟩, false, rfl, Nat.le_refl _, Nat.zero_le _, by simp, ?_, fun _ => rfl, Below.refl _ _⟩
    have := nr (l := strB s) (k := (strB s).length) (c := 46) (fun i hi => hn i (by omega))
    rwa [List.take_of_length_le (Nat.le_refl _)] at this
  · refine (zg s w hs k hk h).mono ?_
    rintro e w' ⟨rfl, hb⟩
    refine ⟨_, _, true, rfl, by simp; omega, by simp, ?_, ?_, fun hh => (by cases hh), hb⟩
    · rw [ly, ly, List.drop_zero, List.take_of_length_le (i := s.size) (by omega), if_pos rfl]
      have := vD (l := strB s) (k := k) (by omega)
      rw [hd] at this
      exact this
    · rw [ly, List.drop_zero]
      exact nr hn
end Go.Proofs.YtbpphlmakmeoaaaGreatDoor.Mo
namespace Go.Proofs.YtbpphlmakmeoaaaGreatDoor.Mo
open Go.RowKit
def jS (neg : Bool) (A B : List Int) (f : Bool) : Int × Int :=
  if il A = false ∨ (f = true ∧ gK B = false) then (0, 21) else if neg = true ∧ A = [48] ∧ f = false then (0, 21) else if 14 < A.length then (0, 22)
  else if 1000000000000000 < 100 * fH A + fH B then (0, 22) else (if neg = true then -(100 * fH A + fH B) else 100 * fH A + fH B, 0)
theorem md (l : List Int) : il l = true ↔ js l := by
  unfold il js
  constructor
  · intro h
    rw [Bool.or_eq_true, Bool.and_eq_true, Bool.and_eq_true] at h
    rcases h with h | ⟨h1, h2, h3⟩
    · have := of_decide_eq_true h
      subst this
      exact ⟨by simp, by decide, .inl rfl⟩
    · exact ⟨of_decide_eq_true h1, h3, .inr (of_decide_eq_true h2)⟩
  · rintro ⟨h1, h2, h3⟩
    by_cases h4 : l.getD 0 0 = 48
    · rcases h3 with h3 | h3
      · match l, h3 with
        | [a], _ => simp at h4; subst h4; rfl
      · exact absurd h4 h3
    · rw [decide_eq_true h1, decide_eq_true h4, h2]; simp
theorem lw (l : List Int) : gK l = true ↔ (l.length = 2 ∧ fE l = true ∧ ¬ (l.getD 0 0 = 48 ∧ l.getD 1 0 = 48)) := by
  unfold gK
  rw [Bool.and_eq_true, Bool.and_eq_true]
  constructor
  · rintro ⟨h1, h2, h3⟩
    have h1 := of_decide_eq_true h1
    have h2 := of_decide_eq_true h2
    refine ⟨h1, h3, fun h => h2 ?_⟩
    rw [pC h1, h.1, h.2]
  · rintro ⟨h1, h2, h3⟩
    refine ⟨decide_eq_true h1, decide_eq_true (fun h => h3 ?_), h2⟩
    rw [h]; exact ⟨rfl, rfl⟩
theorem xg {A B A' B' : List Int} (h1 : 46 ∉ A) (h2 : 46 ∉ A') (h : A ++ 46 :: B = A' ++ 46 :: B') : A = A' ∧ B = B' := by
  induction A generalizing A' with
  | nil =>
    cases A' with
    | nil => simp at h; exact ⟨rfl, h⟩
    | cons a l => simp at h; exact absurd (h.1 ▸ List.mem_cons_self ..) h2
  | cons a l ih =>
    cases A' with
    | nil => simp at h; exact absurd (h.1 ▸ List.mem_cons_self ..) h1
    | cons a' l' =>
      simp at h
      have := ih (fun hh => h1 (List.mem_cons_of_mem _ hh)) (fun hh => h2 (List.mem_cons_of_mem _ hh)) h.2
      exact ⟨by rw [h.1, this.1], this.2⟩
theorem uk {ds : List Int} (h : fE ds = true) : 46 ∉ ds := by
  intro hm
  unfold fE at h
  rw [List.all_eq_true] at h
  have := h _ hm
  simp [iB] at this
theorem kG : ∀ (l : List Int) (a : Int), 0 ≤ a → fE l = true → a * 10 ^ l.length ≤ l.foldl (fun n c => n * 10 + (c - 48)) a ∧ l.foldl (fun n c => n * 10 + (c - 48)) a < (a + 1) * 10 ^ l.length := by
  intro l
  induction l with
  | nil => intro a ha _; simp; omega
  | cons c l ih =>
    intro a ha h
    unfold fE at h
    rw [List.all_cons, Bool.and_eq_true] at h
    have hc := of_decide_eq_true h.1
    have := ih (a * 10 + (c - 48)) (by omega) h.2
    rw [List.foldl_cons, List.length_cons, Int.pow_succ]
    have hp : (0 : Int) < 10 ^ l.length := Int.pow_pos (by decide)
    generalize (10 : Int) ^ l.length = P at *
    generalize l.foldl _ _ = R at *
    have e1 : a * (P * 10) ≤ (a * 10 + (c - 48)) * P := by
      rw [Int.add_mul, show a * (P * 10) = a * 10 * P by rw [Int.mul_comm P 10, Int.mul_assoc]]
      have : 0 ≤ (c - 48) * P := Int.mul_nonneg (by omega) (by omega)
      omega
    have e2 : (a * 10 + (c - 48) + 1) * P ≤ (a + 1) * (P * 10) := by
      rw [show (a + 1) * (P * 10) = (a * 10 + 10) * P by rw [Int.mul_comm P 10, ← Int.mul_assoc]; congr 1; omega]
      exact Int.mul_le_mul_of_nonneg_right (by omega) (by omega)
    omega
theorem mr (ds : List Int) (h : fE ds = true) : 0 ≤ fH ds := by
  have := (kG ds 0 (by decide) h).1
  rw [Int.zero_mul] at this
  exact this
theorem sJ (ds : List Int) (h : fE ds = true) : fH ds < 10 ^ ds.length := by
  have := (kG ds 0 (by decide) h).2
  rw [Int.zero_add, Int.one_mul] at this
  exact this
theorem yT {ds : List Int} (h : fE ds = true) (h0 : ds.getD 0 0 ≠ 48) (hl : 15 ≤ ds.length) : 100000000000000 ≤ fH ds := by
  cases ds with
  | nil => simp at hl
  | cons c l =>
    unfold fE at h
    rw [List.all_cons, Bool.and_eq_true] at h
    have hc := of_decide_eq_true h.1
    simp at h0
    have := (kG l (c - 48) (by omega) h.2).1
    have e : fH (c :: l) = l.foldl (fun n c => n * 10 + (c - 48)) (c - 48) := by unfold fH; rw [List.foldl_cons]; congr 1; omega
    rw [e]
    have hp : (10 : Int) ^ 14 ≤ 10 ^ l.length := by
      have : (10 : Nat) ^ 14 ≤ 10 ^ l.length := Nat.pow_le_pow_right (by decide) (by simp at hl; omega)
      have e1 : ((10 ^ l.length : Nat) : Int) = (10 : Int) ^ l.length := by simp
      have e2 : ((10 ^ 14 : Nat) : Int) = (10 : Int) ^ 14 := by simp
      omega
    have h14 : (10 : Int) ^ 14 = 100000000000000 := by decide
    have h3 : 1 * (10 : Int) ^ l.length ≤ (c - 48) * 10 ^ l.length := Int.mul_le_mul_of_nonneg_right (by omega) (by omega)
    omega
theorem yK {l A B : List Int} {f : Bool} (h : l = (if iq l = true then [45] else []) ++ (A ++ (if f = true then 46 :: B else []))) (hA : 46 ∉ A) (hB : f = false → B = []) :
    jS (iq l) A B f = parseM l := by
  by_cases hgood : Good (iq l) A B ∧ (f = true → B ≠ [])
  · obtain ⟨hg, hf⟩ := hgood
    have hl : l = ix (iq l) A B := by
      conv => lhs; rw [h]
      unfold ix
      cases f with
      | false => rw [hB rfl]; simp
      | true => rw [if_pos rfl, if_neg (hf rfl)]
    have hp : parseM l = parseM (ix (iq l) A B) := congrArg parseM hl
    rw [hp, pK hg]
    obtain ⟨hd, hc, hn⟩ := hg
    have e1 : il A = true := (md A).2 hd
    have e2 : f = true → gK B = true := fun hf1 => by
      rcases hc with hc | hc
      · exact absurd hc (hf hf1)
      · exact (lw B).2 hc
    have hvB : 0 ≤ fH B := by
      rcases hc with rfl | hc
      · decide
      · exact mr B hc.2.1
    unfold jS
    rw [if_neg (by rintro (hh | ⟨h1, h2⟩); · rw [e1] at hh; cases hh
                   · rw [e2 h1] at h2; cases h2)]
    rw [if_neg (by rintro ⟨h1, h2, h3⟩; exact hn ⟨h1, h2, hB h3⟩)]
    have hm : 100 * fH A + fH B = iL A B := by unfold iL; omega
    rw [hm]
    by_cases h15 : 15 < A.length
    · rw [if_pos (by omega), if_pos h15]
    · rw [if_neg h15]
      by_cases h14 : 14 < A.length
      · rw [if_pos h14, if_pos]
        have h48 : A.getD 0 0 ≠ 48 := by rcases hd.2.2 with h | h; · omega
                                         · exact h
        have := yT hd.2.1 h48 (by omega)
        unfold iL; omega
      · rw [if_neg h14]
  · have hbad : jS (iq l) A B f = (0, 21) := by
      unfold jS
      by_cases c1 : il A = false ∨ (f = true ∧ gK B = false)
      · rw [if_pos c1]
      · rw [if_neg c1, if_pos]
        apply Classical.byContradiction
        intro c2
        apply hgood
        have hd : js A := (md A).1 (by cases hw : il A with | true => rfl | false => exact absurd (.inl hw) c1)
        have hcs : f = true → (B.length = 2 ∧ fE B = true ∧ ¬ (B.getD 0 0 = 48 ∧ B.getD 1 0 = 48)) := fun hf1 => (lw B).1 (by cases hw : gK B with | true => rfl | false => exact absurd (.inr ⟨hf1, hw⟩) c1)
        refine ⟨⟨hd, ?_, ?_⟩, fun hf1 hb => ?_⟩
        · cases f with
          | false => exact .inl (hB rfl)
          | true => exact .inr (hcs rfl)
        · rintro ⟨n1, n2, n3⟩
          apply c2
          refine ⟨n1, n2, ?_⟩
          cases f with
          | false => rfl
          | true => have := (hcs rfl).1; rw [n3] at this; cases this
        · have := (hcs hf1).1; rw [hb] at this; cases this
    rw [hbad]
    symm
    apply yh
    apply Classical.byContradiction
    intro hh
    obtain ⟨neg, ds, cs, hg, hl⟩ := oP hh
    apply hgood
    have hneg : iq l = neg := by rw [hl]; exact sV hg.d
    have hmem : 46 ∉ ds := uk hg.d.2.1
    have e : A ++ (if f = true then 46 :: B else []) = ds ++ (if cs = [] then [] else 46 :: cs) := by
      have h1 : l = (if neg = true then [45] else []) ++ (ds ++ (if cs = [] then [] else 46 :: cs)) := hl
      rw [← hneg] at h1
      exact List.append_cancel_left (h.symm.trans h1)
    rw [hneg]
    cases f with
    | false =>
      rw [if_neg (by simp), List.append_nil] at e
      by_cases hcs : cs = []
      · rw [if_pos hcs, List.append_nil] at e
        rw [hB rfl, e, ← hcs]
        exact ⟨hg, fun hf => by cases hf⟩
      · rw [if_neg hcs] at e
        rw [e] at hA
        exact absurd (List.mem_append_right _ (List.mem_cons_self ..)) hA
    | true =>
      rw [if_pos rfl] at e
      by_cases hcs : cs = []
      · rw [if_pos hcs, List.append_nil] at e
        rw [← e] at hmem
        exact absurd (List.mem_append_right _ (List.mem_cons_self ..)) hmem
      · rw [if_neg hcs] at e
        obtain ⟨rfl, rfl⟩ := xg hA hmem e
        exact ⟨hg, fun _ => hcs⟩
theorem wZ (l : List Int) : l = (if iq l = true then [45] else []) ++ l.drop (ie l) := by
  unfold ie
  cases hn : iq l with
  | false => simp
  | true =>
    have := of_decide_eq_true hn
    cases l with
    | nil => simp at this
    | cons a l => simp at this; simp [this]
theorem parse_any (s : ByteArray) (w : World) (hs : s.size ≤ 140737488355328) :
    Calls Tryz.prog 293 #[.string s] w fun e w' => e = .returned (pairV (parseM (strB s))) ∧ Below w.heap.size w w' := by
  obtain ⟨l, hl⟩ : ∃ l, l = strB s := ⟨_, rfl⟩
  have HSD := ec (wZ l)
  have C0 := ec (fun w => rX s w)
  rw [← hl] at C0 ⊢
  clear hl
  obtain ⟨neg, hneg⟩ : ∃ b, b = iq l := ⟨_, rfl⟩
  have HNG := ec hneg
  rw [← hneg] at C0 HSD
  clear hneg
  go_enter Tryz.func293, Tryz.ntmps293
  go_wp2_with fail
  refine (C0.out _).mono ?_
  rintro e w1 ⟨d, rfl, hd, hds, rfl⟩
  have HD := ec hd
  have C1 := ec (fun w => zz d w (by omega))
  clear hd C0
  go_wp2_with fail
  refine (C1.out _).mono ?_
  rintro e w2 ⟨a, b, f, rfl, ha, hb, hsp, hna, hfb, hb2⟩
  clear C1
  have HP : Hid (jS neg (strB a) (strB b) f = parseM l) := by
    have h1 := HSD.out
    rw [← HD.out, hsp] at h1
    have := yK (l := l) (A := strB a) (B := strB b) (f := f) (by rw [← HNG.out]; exact h1) hna hfb
    rw [← HNG.out] at this
    exact this
  have HFB := ec hfb
  clear hsp hna hfb
  have CW := ec (fun w => ui a w (by omega))
  have CC := ec (fun w => ud b w (by omega))
  have hA48 := oJ a [48]
  have HLA := ec (jG a)
  have HLB := ec (jG b)
  obtain ⟨z, hz⟩ : ∃ z, z = decide (strB a = [48]) := ⟨_, rfl⟩
  have hA48' : (a.toList == [48]) = z := by rw [hz]; exact hA48
  have HZ := ec hz
  clear hz hA48
  cases hw : il (strB a) with
  | false =>
    have HV : Hid (parseM l = (0, 21)) := by unfold Hid; rw [← HP.out]; unfold jS; rw [if_pos (.inl hw)]
    rw [hw] at CW
    clear hw
    go_wp2_with (go_at_call 317; refine (CW.out _).mono ?_; rintro e w3 ⟨rfl, hww⟩; subst w3)
    go_ret2
    exact ⟨gr HV.out, hb2⟩
  | true =>
    have HW := ec hw
    rw [hw] at CW
    clear hw
    cases hf : (f && !gK (strB b)) with
    | true =>
      rw [Bool.and_eq_true] at hf
      have hf1 : f = true := hf.1
      have hcb : gK (strB b) = false := by simpa using hf.2
      subst hf1
      have HV : Hid (parseM l = (0, 21)) := by unfold Hid; rw [← HP.out]; unfold jS; rw [if_pos (.inr ⟨rfl, hcb⟩)]
      rw [hcb] at CC
      clear hf hcb
      go_wp2_with (first | (go_at_call 317; refine (CW.out _).mono ?_; rintro e w3 ⟨rfl, hww⟩; subst w3) | (go_at_call 318; refine (CC.out _).mono ?_; rintro e w3 ⟨rfl, hww⟩; subst w3))
      go_ret2
      exact ⟨gr HV.out, hb2⟩
    | false =>
      have HF1 : Hid (¬ (il (strB a) = false ∨ (f = true ∧ gK (strB b) = false))) := by
        rintro (h | ⟨h1, h2⟩)
        · rw [HW.out] at h; cases h
        · rw [h1, h2] at hf; cases hf
      have HCB : Hid (fE (strB b) = true ∧ b.size ≤ 2) := by
        cases f with
        | false => rw [HFB.out rfl]; refine ⟨rfl, ?_⟩; have := HLB.out; rw [HFB.out rfl] at this; simp at this; omega
        | true =>
          have hc : gK (strB b) = true := by simpa using hf
          have := (lw _).1 hc
          exact ⟨this.2.1, by rw [← HLB.out]; omega⟩
      have HCC : Hid (f = true → gK (strB b) = true) := fun h => by rw [h] at hf; simpa using hf
      clear hf
      cases hm : (neg && (z && !f)) with
      | true =>
        rw [Bool.and_eq_true, Bool.and_eq_true] at hm
        obtain ⟨hm1, hm2, hm3⟩ := hm
        have hm3' : f = false := by simpa using hm3
        subst hm1 hm2 hm3'
        have HV : Hid (parseM l = (0, 21)) := by unfold Hid; rw [← HP.out]; unfold jS; rw [if_neg HF1.out, if_pos ⟨rfl, of_decide_eq_true HZ.out.symm, rfl⟩]
        go_wp2_with (first | (go_at_call 317; refine (CW.out _).mono ?_; rintro e w3 ⟨rfl, hww⟩; subst w3) | (go_at_call 318; refine (CC.out _).mono ?_; rintro e w3 ⟨rfl, hww⟩; subst w3))
        go_ret2
        exact ⟨gr HV.out, hb2⟩
      | false =>
        have HM : Hid (¬ (neg = true ∧ strB a = [48] ∧ f = false)) := by
          rintro ⟨h1, h2, h3⟩
          have : z = true := by rw [HZ.out]; exact decide_eq_true h2
          rw [h1, this, h3] at hm; cases hm
        by_cases h14 : 14 < a.size
        · have HV : Hid (parseM l = (0, 22)) := by unfold Hid; rw [← HP.out]; unfold jS; rw [if_neg HF1.out, if_neg HM.out, if_pos (by rw [HLA.out]; exact h14)]
          cases f with
          | false =>
            cases neg with
            | false => (go_wp2_with (first | (go_at_call 317; refine (CW.out _).mono ?_; rintro e w3 ⟨rfl, hww⟩; subst w3) | (go_at_call 318; refine (CC.out _).mono ?_; rintro e w3 ⟨rfl, hww⟩; subst w3)); go_ret2; exact ⟨gr HV.out, hb2⟩)
            | true =>
              cases z with
              | true => cases hm
              | false => (go_wp2_with (first | (go_at_call 317; refine (CW.out _).mono ?_; rintro e w3 ⟨rfl, hww⟩; subst w3) | (go_at_call 318; refine (CC.out _).mono ?_; rintro e w3 ⟨rfl, hww⟩; subst w3)); go_ret2; exact ⟨gr HV.out, hb2⟩)
          | true =>
            rw [HCC.out rfl] at CC
            cases neg with
            | false => (go_wp2_with (first | (go_at_call 317; refine (CW.out _).mono ?_; rintro e w3 ⟨rfl, hww⟩; subst w3) | (go_at_call 318; refine (CC.out _).mono ?_; rintro e w3 ⟨rfl, hww⟩; subst w3)); go_ret2; exact ⟨gr HV.out, hb2⟩)
            | true =>
              cases z with
              | true => (go_wp2_with (first | (go_at_call 317; refine (CW.out _).mono ?_; rintro e w3 ⟨rfl, hww⟩; subst w3) | (go_at_call 318; refine (CC.out _).mono ?_; rintro e w3 ⟨rfl, hww⟩; subst w3)); go_ret2; exact ⟨gr HV.out, hb2⟩)
              | false => (go_wp2_with (first | (go_at_call 317; refine (CW.out _).mono ?_; rintro e w3 ⟨rfl, hww⟩; subst w3) | (go_at_call 318; refine (CC.out _).mono ?_; rintro e w3 ⟨rfl, hww⟩; subst w3)); go_ret2; exact ⟨gr HV.out, hb2⟩)
        · have hgd := (md _).1 HW.out
          have N1 := ec (fun w => ki a w (by omega) hgd.2.1)
          have N2 := ec (fun w => ki b w (by have := HCB.out.2; omega) HCB.out.1)
          have hv1 := mr _ hgd.2.1
          have hv2 := sJ _ hgd.2.1
          have hv3 := mr _ HCB.out.1
          have hv4 := sJ _ HCB.out.1
          have hv5 := mJ (k := (strB a).length) (by rw [HLA.out]; omega)
          have hv6 := mJ (k := (strB b).length) (by rw [HLB.out]; have := HCB.out.2; omega)
          have HQ : Hid (parseM l = if 1000000000000000 < 100 * fH (strB a) + fH (strB b) then (0, 22) else (if neg = true then -(100 * fH (strB a) + fH (strB b)) else 100 * fH (strB a) + fH (strB b), 0)) := by
            unfold Hid; rw [← HP.out]; unfold jS; rw [if_neg HF1.out, if_neg HM.out, if_neg (by rw [HLA.out]; exact h14)]
          generalize hx : fH (strB a) = x at *
          generalize hy : fH (strB b) = y at *
          have hx1 : x ≤ 100000000000000 := by omega
          have hy1 : y ≤ 100000000000000 := by omega
          clear hv2 hv4 hv5 hv6 hgd hx hy
          have CK := ec (fun w => lV (100 * x + y) w)
          by_cases hov : 1000000000000000 < 100 * x + y
          · have HV : Hid (parseM l = (0, 22)) := by unfold Hid; rw [HQ.out, if_pos hov]
            rw [nA (zQ (.inr hov))] at CK
            cases f with
            | false =>
              cases neg with
              | false => (go_wp2_with (first | (go_at_call 317; refine (CW.out _).mono ?_; rintro e w3 ⟨rfl, hww⟩; subst w3) | (go_at_call 318; refine (CC.out _).mono ?_; rintro e w3 ⟨rfl, hww⟩; subst w3)); refine (N1.out _).mono ?_; rintro e w4 ⟨rfl, hww⟩; subst w4; go_wp2_with fail; refine (N2.out _).mono ?_; rintro e w4 ⟨rfl, hww⟩; subst w4; go_wp2_with (go_at_call 256; refine (CK.out _).mono ?_; rintro e w3 ⟨rfl, hww⟩; subst w3); go_ret2; exact ⟨gr HV.out, hb2⟩)
              | true =>
                cases z with
                | true => cases hm
                | false => (go_wp2_with (first | (go_at_call 317; refine (CW.out _).mono ?_; rintro e w3 ⟨rfl, hww⟩; subst w3) | (go_at_call 318; refine (CC.out _).mono ?_; rintro e w3 ⟨rfl, hww⟩; subst w3)); refine (N1.out _).mono ?_; rintro e w4 ⟨rfl, hww⟩; subst w4; go_wp2_with fail; refine (N2.out _).mono ?_; rintro e w4 ⟨rfl, hww⟩; subst w4; go_wp2_with (go_at_call 256; refine (CK.out _).mono ?_; rintro e w3 ⟨rfl, hww⟩; subst w3); go_ret2; exact ⟨gr HV.out, hb2⟩)
            | true =>
              rw [HCC.out rfl] at CC
              cases neg with
              | false => (go_wp2_with (first | (go_at_call 317; refine (CW.out _).mono ?_; rintro e w3 ⟨rfl, hww⟩; subst w3) | (go_at_call 318; refine (CC.out _).mono ?_; rintro e w3 ⟨rfl, hww⟩; subst w3)); refine (N1.out _).mono ?_; rintro e w4 ⟨rfl, hww⟩; subst w4; go_wp2_with fail; refine (N2.out _).mono ?_; rintro e w4 ⟨rfl, hww⟩; subst w4; go_wp2_with (go_at_call 256; refine (CK.out _).mono ?_; rintro e w3 ⟨rfl, hww⟩; subst w3); go_ret2; exact ⟨gr HV.out, hb2⟩)
              | true =>
                cases z with
                | true => (go_wp2_with (first | (go_at_call 317; refine (CW.out _).mono ?_; rintro e w3 ⟨rfl, hww⟩; subst w3) | (go_at_call 318; refine (CC.out _).mono ?_; rintro e w3 ⟨rfl, hww⟩; subst w3)); refine (N1.out _).mono ?_; rintro e w4 ⟨rfl, hww⟩; subst w4; go_wp2_with fail; refine (N2.out _).mono ?_; rintro e w4 ⟨rfl, hww⟩; subst w4; go_wp2_with (go_at_call 256; refine (CK.out _).mono ?_; rintro e w3 ⟨rfl, hww⟩; subst w3); go_ret2; exact ⟨gr HV.out, hb2⟩)
                | false => (go_wp2_with (first | (go_at_call 317; refine (CW.out _).mono ?_; rintro e w3 ⟨rfl, hww⟩; subst w3) | (go_at_call 318; refine (CC.out _).mono ?_; rintro e w3 ⟨rfl, hww⟩; subst w3)); refine (N1.out _).mono ?_; rintro e w4 ⟨rfl, hww⟩; subst w4; go_wp2_with fail; refine (N2.out _).mono ?_; rintro e w4 ⟨rfl, hww⟩; subst w4; go_wp2_with (go_at_call 256; refine (CK.out _).mono ?_; rintro e w3 ⟨rfl, hww⟩; subst w3); go_ret2; exact ⟨gr HV.out, hb2⟩)
          · have HV : Hid (parseM l = (if neg = true then -(100 * x + y) else 100 * x + y, 0)) := by unfold Hid; rw [HQ.out, if_neg hov]
            rw [oh (tr ⟨by omega, by omega⟩)] at CK
            cases f with
            | false =>
              cases neg with
              | false => (go_wp2_with (first | (go_at_call 317; refine (CW.out _).mono ?_; rintro e w3 ⟨rfl, hww⟩; subst w3) | (go_at_call 318; refine (CC.out _).mono ?_; rintro e w3 ⟨rfl, hww⟩; subst w3)); refine (N1.out _).mono ?_; rintro e w4 ⟨rfl, hww⟩; subst w4; go_wp2_with fail; refine (N2.out _).mono ?_; rintro e w4 ⟨rfl, hww⟩; subst w4; go_wp2_with (go_at_call 256; refine (CK.out _).mono ?_; rintro e w3 ⟨rfl, hww⟩; subst w3); go_ret2; exact ⟨gr HV.out, hb2⟩)
              | true =>
                cases z with
                | true => cases hm
                | false => (go_wp2_with (first | (go_at_call 317; refine (CW.out _).mono ?_; rintro e w3 ⟨rfl, hww⟩; subst w3) | (go_at_call 318; refine (CC.out _).mono ?_; rintro e w3 ⟨rfl, hww⟩; subst w3)); refine (N1.out _).mono ?_; rintro e w4 ⟨rfl, hww⟩; subst w4; go_wp2_with fail; refine (N2.out _).mono ?_; rintro e w4 ⟨rfl, hww⟩; subst w4; go_wp2_with (go_at_call 256; refine (CK.out _).mono ?_; rintro e w3 ⟨rfl, hww⟩; subst w3); go_ret2; exact ⟨gr HV.out, hb2⟩)
            | true =>
              rw [HCC.out rfl] at CC
              cases neg with
              | false => (go_wp2_with (first | (go_at_call 317; refine (CW.out _).mono ?_; rintro e w3 ⟨rfl, hww⟩; subst w3) | (go_at_call 318; refine (CC.out _).mono ?_; rintro e w3 ⟨rfl, hww⟩; subst w3)); refine (N1.out _).mono ?_; rintro e w4 ⟨rfl, hww⟩; subst w4; go_wp2_with fail; refine (N2.out _).mono ?_; rintro e w4 ⟨rfl, hww⟩; subst w4; go_wp2_with (go_at_call 256; refine (CK.out _).mono ?_; rintro e w3 ⟨rfl, hww⟩; subst w3); go_ret2; exact ⟨gr HV.out, hb2⟩)
              | true =>
                cases z with
                | true => (go_wp2_with (first | (go_at_call 317; refine (CW.out _).mono ?_; rintro e w3 ⟨rfl, hww⟩; subst w3) | (go_at_call 318; refine (CC.out _).mono ?_; rintro e w3 ⟨rfl, hww⟩; subst w3)); refine (N1.out _).mono ?_; rintro e w4 ⟨rfl, hww⟩; subst w4; go_wp2_with fail; refine (N2.out _).mono ?_; rintro e w4 ⟨rfl, hww⟩; subst w4; go_wp2_with (go_at_call 256; refine (CK.out _).mono ?_; rintro e w3 ⟨rfl, hww⟩; subst w3); go_ret2; exact ⟨gr HV.out, hb2⟩)
                | false => (go_wp2_with (first | (go_at_call 317; refine (CW.out _).mono ?_; rintro e w3 ⟨rfl, hww⟩; subst w3) | (go_at_call 318; refine (CC.out _).mono ?_; rintro e w3 ⟨rfl, hww⟩; subst w3)); refine (N1.out _).mono ?_; rintro e w4 ⟨rfl, hww⟩; subst w4; go_wp2_with fail; refine (N2.out _).mono ?_; rintro e w4 ⟨rfl, hww⟩; subst w4; go_wp2_with (go_at_call 256; refine (CK.out _).mono ?_; rintro e w3 ⟨rfl, hww⟩; subst w3); go_ret2; exact ⟨gr HV.out, hb2⟩)
end Go.Proofs.YtbpphlmakmeoaaaGreatDoor.Mo
