import Derived.Test.YtbpphlmakmeoaaaGreatDoorMo
import Derived.Test.YtbpphlmakmeoaaaGreatDoorShelf
import Derived.Test.YtbpphlmakmeoaaaGreatDoorShelfF
import Derived.Lib.LaidTab
set_option maxRecDepth 100000
set_option maxHeartbeats 800000
namespace Go.Proofs.YtbpphlmakmeoaaaGreatDoor.Mo
open Go.RowKit
def Tab (w : World) : Prop := Lib.TabIs Tryz.prog w "internal/strconv.uint64pow10" .u64 Lib.pow10Tab
theorem Tab.below {w w' : World} {B : Nat} (h : Tab w) (hb : Below B w w') (hB : w.heap.size ≤ B) : Tab w' := by
 have Aa : Tryz.prog.globalNamed "internal/strconv.uint64pow10" = some 0 := by kernel_rfl
 unfold Tab Lib.TabIs World.var? at h ⊢
 rw [Aa] at h ⊢
 simp only [Option.bind_some] at h ⊢
 have Ab : 0 < w.heap.size := by
  rcases Nat.lt_or_ge 0 w.heap.size with h' | h'
  · exact h'
  · rw [Array.getElem?_eq_none h'] at h; cases h
 rw [hb.block 0 (by omega)]
 exact h
theorem below_grow (B : Nat) (w : World) (q : Nat) (os : Array Obj) (hB : B ≤ w.heap.size) : Below B w (Sort.grow (w.drewN q) os) :=
 ⟨rfl, rfl, rfl, by simp [Sort.grow], fun i hi => by
  show ((w.drewN q).heap ++ os)[i]? = _
  rw [Array.getElem?_append_left (by show i < w.heap.size; omega)]
  rfl⟩
theorem pW (u : Nat) : UInt8.ofNat (48 + u) = UInt8.ofNat (48 + (u : Int)).toNat := by rw [show (48 + (u : Int)).toNat = 48 + u by omega]
theorem pl : ∀ (f : Nat) (u : Nat), u < 10 ^ (f + 1) → Lib.decDigits u = (decD f u).map fun n => UInt8.ofNat n.toNat := by
 intro f
 induction f with
 | zero =>
  intro u h
  rw [Lib.decDigits, dif_pos (by simpa using h), pW]
  rfl
 | succ f ih =>
  intro u h
  rw [Lib.decDigits, decD]
  by_cases h10 : u < 10
  · rw [dif_pos h10, if_pos (by omega), pW]
    rfl
  · rw [dif_neg h10, if_neg (by omega), ih (u / 10) (by rw [Nat.div_lt_iff_lt_mul (by decide)]; rwa [Nat.pow_succ] at h), List.map_append, pW]
    rfl
theorem yw (n : Int) (h0 : 0 ≤ n) (h1 : n ≤ 10000000000000) : (⟨(Lib.itoa n).toArray⟩ : ByteArray) = strOfNums (decD 20 n) := by
 obtain ⟨u, rfl⟩ := Int.eq_ofNat_of_zero_le h0
 unfold Lib.itoa strOfNums
 rw [if_neg (by omega), show ((u : Int)).toNat = u from rfl, pl 20 u (by omega)]
theorem uq (n : Int) (w : World) (h0 : 0 ≤ n) (h1 : n ≤ 10000000000000) (ht : Tab w) :
    Calls Tryz.prog 207 #[.int .i64 n, .int .i64 10] w fun e w' => e = .returned (.string (strOfNums (decD 20 n))) ∧ Below w.heap.size w w' := by
 refine (Tryz.strconv_FormatInt_10 n (by omega) (by omega) w ht).mono ?_
 rintro e w' ⟨rfl, k, os, rfl⟩
 exact ⟨by rw [yw n h0 h1], below_grow _ w k os (Nat.le_refl _)⟩
theorem lU (n : Int) (w : World) (h0 : 0 ≤ n) (h1 : n ≤ 9) :
    Calls Tryz.prog 207 #[.int .i64 n, .int .i64 10] w fun e w' => e = .returned (.string (strOfNums [48 + n])) ∧ w' = w := by
 obtain ⟨u, rfl⟩ := Int.eq_ofNat_of_zero_le h0
 refine (Tryz.strconv_FormatInt_10_small u (by omega) w).mono ?_
 rintro e w' ⟨rfl, rfl⟩
 refine ⟨?_, rfl⟩
 rw [pl 20 u (by omega), decD, if_pos (by omega)]
 rfl
theorem mB {a b : ByteArray} (h : a = b) (c : Int) : Ending.returned (.tuple #[.string a, .int .i64 c]) = .returned (.tuple #[.string b, .int .i64 c]) := by rw [h]
theorem print_any (m : Int) (w : World) (ht : Tab w) :
    Calls Tryz.prog 204 #[.int .i64 m] w fun e w' => e = .returned (.tuple #[.string (strOfNums (printM m).1), .int .i64 (printM m).2]) ∧ Below w.heap.size w w' := by
 have CM := ec (fun w => lV m w)
 have ks := strOfNums_size
 have HJ := ec zd
 have HT := ec ht
 clear ht
 cases hm : kT m with
 | false =>
  rw [nA hm] at CM
  have HV : Hid (printM m = ([], 22)) := by unfold Hid printM; rw [if_neg (by rw [hm]; simp)]
  clear hm
  go_enter Tryz.func204, Tryz.ntmps204
  go_wp2_with (go_at_call 256; refine (CM.out _).mono ?_; rintro e w' ⟨rfl, rfl⟩)
  go_ret2
  rw [HV.out]
  exact ⟨rfl, Below.refl _ _⟩
 | true =>
  rw [oh hm] at CM
  have hb := may_yes hm
  have HV : Hid (printM m = (textM m, 0)) := by unfold Hid printM; rw [if_pos hm]
  clear hm
  rcases (show m < 0 ∨ 0 ≤ m by omega) with hn | hn
  · obtain ⟨p, rfl⟩ : ∃ p, m = -p := ⟨-m, by omega⟩
    have hp : 0 < p := by omega
    have Ad : p ≤ 1000000000000000 := by omega
    have hl := decD_len 20 (p / 100)
    have CD := ec (fun w ht => uq (p / 100) w (by omega) (by omega) ht)
    have C1 := ec (fun w => lU (p % 100 / 10) w (by omega) (by omega))
    have C2 := ec (fun w => lU (p % 100 % 10) w (by omega) (by omega))
    have Aa : Hid (textM (-p) = [45] ++ decD 20 (p / 100) ++ (if p % 100 = 0 then [] else [46, 48 + p % 100 / 10, 48 + p % 100 % 10])) := by
     unfold Hid textM centsB; rw [if_pos hn, Int.neg_neg, show p % 100 % 10 = p % 10 by omega]; simp
    generalize decD 20 (p / 100) = ds at *
    by_cases hc : p % 100 = 0
    · have Ac : (p % 100 == 0) = true := by simp [hc]
      have HC := ec hc
      clear hc hb
      go_enter Tryz.func204, Tryz.ntmps204
      go_wp2_with (first | (go_at_call 256; refine (CM.out _).mono ?_; rintro e w' ⟨rfl, rfl⟩) | (go_at_call 207; refine (CD.out _ HT.out).mono ?_; rintro e w1 ⟨rfl, Ab⟩))
      go_ret2
      rw [HV.out]
      exact ⟨mB (by rw [Aa.out, if_pos HC.out, rO, HJ.out]; simp) 0, Ab⟩
    · have Ac : (p % 100 == 0) = false := by simp [hc]
      have HC := ec hc
      obtain ⟨x, hx⟩ : ∃ x, p % 100 / 10 = x := ⟨_, rfl⟩
      obtain ⟨y, hy⟩ : ∃ y, p % 100 % 10 = y := ⟨_, rfl⟩
      rw [hx] at C1 Aa
      rw [hy] at C2 Aa
      clear hc hb
      go_enter Tryz.func204, Tryz.ntmps204
      go_wp2_with fail
      refine (CM.out _).mono ?_
      rintro e w' ⟨rfl, rfl⟩
      go_wp2_with fail
      refine (CD.out _ HT.out).mono ?_
      rintro e w1 ⟨rfl, Ab⟩
      go_wp2_with fail
      refine (C1.out _).mono ?_
      rintro e w2 ⟨rfl, rfl⟩
      go_wp2_with fail
      refine (C2.out _).mono ?_
      rintro e w3 ⟨rfl, rfl⟩
      go_wp2_with fail
      go_ret2
      rw [HV.out]
      exact ⟨mB (by rw [Aa.out, if_neg HC.out, rO, rD, HJ.out, HJ.out, HJ.out, HJ.out]; simp) 0, Ab⟩
  · have Ae := hb.2
    have hl := decD_len 20 (m / 100)
    have CD := ec (fun w ht => uq (m / 100) w (by omega) (by omega) ht)
    have C1 := ec (fun w => lU (m % 100 / 10) w (by omega) (by omega))
    have C2 := ec (fun w => lU (m % 100 % 10) w (by omega) (by omega))
    have Aa : Hid (textM m = decD 20 (m / 100) ++ (if m % 100 = 0 then [] else [46, 48 + m % 100 / 10, 48 + m % 100 % 10])) := by
     unfold Hid textM centsB; rw [if_neg (by omega), show m % 100 % 10 = m % 10 by omega]
    generalize decD 20 (m / 100) = ds at *
    by_cases hc : m % 100 = 0
    · have Ac : (m % 100 == 0) = true := by simp [hc]
      have HC := ec hc
      clear hc hb
      go_enter Tryz.func204, Tryz.ntmps204
      go_wp2_with fail
      refine (CM.out _).mono ?_
      rintro e w' ⟨rfl, rfl⟩
      go_wp2_with fail
      refine (CD.out _ HT.out).mono ?_
      rintro e w1 ⟨rfl, Ab⟩
      go_wp2_with fail
      go_ret2
      rw [HV.out]
      exact ⟨mB (by rw [Aa.out, if_pos HC.out, rC, HJ.out]; simp) 0, Ab⟩
    · have Ac : (m % 100 == 0) = false := by simp [hc]
      have HC := ec hc
      obtain ⟨x, hx⟩ : ∃ x, m % 100 / 10 = x := ⟨_, rfl⟩
      obtain ⟨y, hy⟩ : ∃ y, m % 100 % 10 = y := ⟨_, rfl⟩
      rw [hx] at C1 Aa
      rw [hy] at C2 Aa
      clear hc hb
      go_enter Tryz.func204, Tryz.ntmps204
      go_wp2_with fail
      refine (CM.out _).mono ?_
      rintro e w' ⟨rfl, rfl⟩
      go_wp2_with fail
      refine (CD.out _ HT.out).mono ?_
      rintro e w1 ⟨rfl, Ab⟩
      go_wp2_with fail
      refine (C1.out _).mono ?_
      rintro e w2 ⟨rfl, rfl⟩
      go_wp2_with fail
      refine (C2.out _).mono ?_
      rintro e w3 ⟨rfl, rfl⟩
      go_wp2_with fail
      go_ret2
      rw [HV.out]
      exact ⟨mB (by rw [Aa.out, if_neg HC.out, rC, rD, HJ.out, HJ.out, HJ.out, HJ.out]; simp) 0, Ab⟩
end Go.Proofs.YtbpphlmakmeoaaaGreatDoor.Mo
