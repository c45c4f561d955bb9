/- OctetsDigits, walked: of any bytes and text, each of at most 1048576, it returns true and turns nothing that was there. -/
import Derived.Test.YtkiigmfdfkflpaaCopy
import Derived.Test.YtkiigmfdfkflpaaRefUnhex
import Derived.Test.YtkiigmfdfkflpaaAlive
namespace Go.Proofs.Ytkiigmfdfkflpaa
open Go.RowKit

set_option maxHeartbeats 1000000 in
theorem digits_walk (a : Option Addr) (len cap : Nat) (zs : List Int) (s : ByteArray) (w : World) (hl : zs.length = len) (hlen : len ≤ 1048576) (hs : s.size ≤ 1048576) (h : Row w a zs) :
    Calls Try.prog 5 #[.slice a len cap, .string s] w fun e w' => e = .returned (.bool true) ∧ Below w.heap.size w w' := by
  have HL := hide hl
  have HR := hide h
  clear hl h
  have HBx := hide (bytes_getD (unhexS_byte (strB s)))
  have HXl : Hid ((unhexS (strB s)).1.length ≤ 1048576) := by have := unhexS_len (strB s); rw [strB_len] at this; unfold Hid; omega
  generalize hX : unhexS (strB s) = X at *
  obtain ⟨xs, xe, xp⟩ := X
  have HX := hide hX
  clear hX
  go_enter Try.func5, Try.ntmps5
  go_wp2_with fail
  have c1 := unhex_any s w (by omega)
  rw [HX.out] at c1
  refine c1.mono ?_
  clear c1
  rintro e w1 ⟨a1, cap1, rfl, hown1, hb1⟩
  have HR1 := hide (own_row' hown1 HBx.out).2.2.2.2
  clear hown1
  go_wp2_with fail
  have c2 := refUnhex_any s w1 (by omega)
  rw [HX.out] at c2
  refine c2.mono ?_
  clear c2
  rintro e w2 ⟨a2, cap2, rfl, hown2, hb2⟩
  have HR2 := hide (own_row' hown2 HBx.out).2.2.2.2
  have HR1b := hide (HR1.out.below hb2 (Nat.le_refl _))
  have hb12 : Below w.heap.size w w2 := hb1.trans (hb2.mono hb1.size)
  clear hown2 hb1 hb2 HR1
  go_wp2_with fail
  refine (sum_any a len cap zs w2 HL.out (by omega) (HR.out.below hb12 (Nat.le_refl _))).mono ?_
  rintro e w3 ⟨rfl, hb3⟩
  have HR1 := hide (HR1b.out.below hb3 (Nat.le_refl _))
  have HR2b := hide (HR2.out.below hb3 (Nat.le_refl _))
  have hb13 : Below w.heap.size w w3 := hb12.trans (hb3.mono hb12.size)
  clear hb12 hb3 HR1b HR2
  go_wp2_with fail
  refine (refSum_any a len cap zs w3 HL.out (by omega) (HR.out.below hb13 (Nat.le_refl _))).mono ?_
  rintro e w4 ⟨rfl, rfl⟩
  generalize crc zs = cz
  go_wp2_with fail
  refine (hex_any a len cap zs w4 HL.out (by omega) (HR.out.below hb13 (Nat.le_refl _))).mono ?_
  rintro e w5 ⟨rfl, hb5⟩
  have HR1b := hide (HR1.out.below hb5 (Nat.le_refl _))
  have HR2 := hide (HR2b.out.below hb5 (Nat.le_refl _))
  have hb15 : Below w.heap.size w w5 := hb13.trans (hb5.mono hb13.size)
  clear hb13 hb5 HR1 HR2b
  go_wp2_with fail
  refine (refHex_any a len cap zs w5 HL.out (by omega) (HR.out.below hb15 (Nat.le_refl _))).mono ?_
  rintro e w6 ⟨rfl, hb6⟩
  have HR1 := hide (HR1b.out.below hb6 (Nat.le_refl _))
  have HR2b := hide (HR2.out.below hb6 (Nat.le_refl _))
  have hb16 : Below w.heap.size w w6 := hb15.trans (hb6.mono hb15.size)
  clear hb15 hb6 HR1b HR2
  generalize strOfNums (hexB zs) = hx
  go_wp2_with fail
  have c7 := same_any a1 a2 _ cap1 _ cap2 xs xs w6 rfl rfl (by have := HXl.out; omega) HR1.out HR2b.out
  rw [decide_eq_true (show xs = xs from rfl)] at c7
  refine c7.mono ?_
  clear c7
  rintro e w7 ⟨rfl, hb7⟩
  have hb17 : Below w.heap.size w w7 := hb16.trans (hb7.mono hb16.size)
  clear hb16 hb7 HR1 HR2b
  go_wp2_with (go_at_call 15; refine (num_any _ _).mono ?_; rintro e w' ⟨rfl, rfl⟩)
  refine (alive_any _).mono ?_
  rintro e w8 ⟨rfl, hb8⟩
  have hb18 := hb17.trans (hb8.mono hb17.size)
  clear hb17 hb8
  go_wp2
  go_ret
  exact ⟨rfl, hb18⟩

end Go.Proofs.Ytkiigmfdfkflpaa
