/- OctetsNumbers, walked: of any number, bytes and place it returns true and turns nothing that was there. -/
import Derived.Test.YtkiigmfdfkflpaaCopy
import Derived.Test.YtkiigmfdfkflpaaRefRead
import Derived.Test.YtkiigmfdfkflpaaUint
import Derived.Test.YtkiigmfdfkflpaaAlive
namespace Go.Proofs.Ytkiigmfdfkflpaa
open Go.RowKit

theorem Row.same {w w' : World} {a : Option Addr} {zs : List Int} {B : Nat} (h : Row w a zs) (hb : Below B w w') (hB : w.heap.size ≤ B := by omega) : Row w' a zs := h.below hb hB

set_option maxHeartbeats 400000 in
theorem numbers_walk (n : Int) (a : Option Addr) (len cap : Nat) (zs : List Int) (p : Int) (w : World) (h0 : 0 ≤ n) (h1 : n < 18446744073709551616) (hl : zs.length = len) (hlen : len ≤ 140737488351232) (h : Row w a zs) :
    Calls Try.prog 3 #[.int .u64 n, .slice a len cap, .int .i64 p] w fun e w' => e = .returned (.bool true) ∧ Below w.heap.size w w' := by
  have HB := hide (bytes_getD (zs := uintB 9 n) (uintB_byte 9 n h0 (by omega)))
  have HU := hide (uintB_len 9 n)
  have HL := hide hl
  have HR := hide h
  clear hl h
  go_enter Try.func3, Try.ntmps3
  go_wp2_with fail
  refine (copy_any a len cap zs _ HL.out (by omega) HR.out).mono ?_
  rintro e w1 ⟨v, rfl, hown, hb1⟩
  obtain ⟨a1, cap1, hv⟩ := own_shape hown
  subst hv
  obtain ⟨hl1, hlc1, hm1, hn1, hr1⟩ := own_row' hown HR.out.byte
  clear hl1 hm1
  have HR1 := hide hr1
  have HN1 := hide hn1
  clear hr1 hn1 hown
  generalize hr : readU zs p = r
  obtain ⟨r1, r2, r3⟩ := r
  have HRD := hide hr
  clear hr
  go_wp2_with fail
  have c2 := readUint_any a1 len cap1 zs p w1 HL.out (by omega) hlc1 HN1.out HR1.out
  rw [HRD.out] at c2
  refine c2.mono ?_
  clear c2
  rintro e w2 ⟨rfl, rfl⟩
  unfold trip
  go_wp2_with fail
  have c3 := refRead_any a len cap zs p w2 HL.out (by omega) (HR.out.same hb1)
  rw [HRD.out] at c3
  refine c3.mono ?_
  clear c3
  rintro e w3 ⟨rfl, rfl⟩
  unfold trip
  go_wp2_with fail
  refine (uint_any n w3 h0 h1).mono ?_
  rintro e w4 ⟨v, rfl, hown4, hb4⟩
  obtain ⟨a4, cap4, hv⟩ := own_shape hown4
  subst hv
  obtain ⟨hl4, hlc4, hm4, hn4, hr4⟩ := own_row' hown4 HB.out
  clear hl4 hm4 hn4 hlc4 hown4
  have HR4 := hide hr4
  clear hr4
  have hb14 : Below w.heap.size w w4 := hb1.trans (hb4.mono hb1.size)
  have HR1' := hide (HR1.out.same hb4)
  clear HR1 hb1 hb4
  go_wp2_with fail
  refine (refUint_any 9 n w4 (by omega) h0 (by omega) (by omega)).mono ?_
  rintro e w5 ⟨a5, cap5, rfl, hown5, hb5⟩
  obtain ⟨hl5, hlc5, hm5, hn5, hr5⟩ := own_row' hown5 HB.out
  clear hl5 hm5 hn5 hlc5 hown5
  have HR5 := hide hr5
  have HR4' := hide (HR4.out.same hb5)
  have hb15 : Below w.heap.size w w5 := hb14.trans (hb5.mono hb14.size)
  have HR1 := hide (HR1'.out.same hb5)
  clear HR1' HR4 hb14 hb5 hr5
  go_wp2_with fail
  have c6 := same_any a4 a5 _ cap4 _ cap5 (uintB 9 n) (uintB 9 n) w5 rfl rfl (by have := HU.out; omega) HR4'.out HR5.out
  rw [decide_eq_true (show uintB 9 n = uintB 9 n from rfl)] at c6
  refine c6.mono ?_
  clear c6
  rintro e w6 ⟨rfl, hb6⟩
  have hb16 : Below w.heap.size w w6 := hb15.trans (hb6.mono hb15.size)
  have HR1' := hide (HR1.out.same hb6)
  clear HR1 HR4' HR5 hb15 hb6
  go_wp2_with (go_at_call 15; refine (num_any _ _).mono ?_; rintro e w' ⟨rfl, rfl⟩)
  have c7 := same_any a1 a len cap1 len cap zs zs w' HL.out HL.out (by omega) HR1'.out (HR.out.same hb16)
  rw [decide_eq_true (show zs = zs from rfl)] at c7
  refine c7.mono ?_
  clear c7
  rintro e w7 ⟨rfl, hb7⟩
  have hb17 : Below w.heap.size w w7 := hb16.trans (hb7.mono hb16.size)
  clear HR1' hb16 hb7
  go_wp2_with fail
  refine (alive_any w7).mono ?_
  rintro e w8 ⟨rfl, hb8⟩
  have hb18 : Below w.heap.size w w8 := hb17.trans (hb8.mono hb17.size)
  clear hb17 hb8
  go_wp2
  go_ret
  exact ⟨rfl, hb18⟩

end Go.Proofs.Ytkiigmfdfkflpaa
