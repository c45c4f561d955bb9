/- OctetsTexts, walked: of any text, bytes and place it returns true and turns nothing that was there. -/
import Derived.Test.YtkiigmfdfkflpaaCopy
import Derived.Test.YtkiigmfdfkflpaaReadText
import Derived.Test.YtkiigmfdfkflpaaText
import Derived.Test.YtkiigmfdfkflpaaAlive
namespace Go.Proofs.Ytkiigmfdfkflpaa
open Go.RowKit

theorem textB_byte (s : ByteArray) (hs : s.size ≤ 140737488351232) : ∀ z ∈ textB s, 0 ≤ z ∧ z ≤ 255 := by
  intro z hz
  rcases List.mem_append.1 hz with h | h
  · exact uintB_byte 9 _ (by omega) (by omega) z h
  · exact strB_byte s z h

theorem mem_of_getD {zs : List Int} (h : ∀ i : Nat, 0 ≤ zs[i]?.getD 0 ∧ zs[i]?.getD 0 ≤ 255) : ∀ z ∈ zs, 0 ≤ z ∧ z ≤ 255 := by
  intro z hz
  obtain ⟨i, hi, rfl⟩ := List.mem_iff_getElem.1 hz
  simpa [hi] using h i

set_option maxHeartbeats 400000 in
theorem texts_walk (s : ByteArray) (a : Option Addr) (len cap : Nat) (zs : List Int) (p : Int) (w : World) (hs : s.size ≤ 140737488351232) (hl : zs.length = len) (hlc : len ≤ cap) (hlen : len ≤ 140737488351232) (h : Row w a zs) :
    Calls Try.prog 4 #[.string s, .slice a len cap, .int .i64 p] w fun e w' => e = .returned (.bool true) ∧ Below w.heap.size w w' := by
  have HZ := hide (mem_of_getD h.byte)
  have HB := hide (bytes_getD (textB_byte s hs))
  have HU := hide (uintB_len 9 (s.size : Int))
  have HTL := hide (textB_len s)
  have HL := hide hl
  have HR := hide h
  clear hl h
  go_enter Try.func4, Try.ntmps4
  go_wp2_with fail
  refine (copy_any a len cap zs _ HL.out (by omega) HR.out).mono ?_
  rintro e w1 ⟨v, rfl, hown, hb1⟩
  obtain ⟨a1, cap1, hv⟩ := own_shape hown
  subst hv
  obtain ⟨hl1, hlc1, hm1, hn1, hr1⟩ := own_row' hown HR.out.byte
  clear hl1 hm1
  have HR1 := hide hr1
  have HN1 := hide hn1
  clear hr1 hn1 hown
  generalize hr : readT zs p = r
  obtain ⟨r1, r2, r3⟩ := r
  have HRD := hide hr
  clear hr
  go_wp2_with fail
  have c2 := readText_any a1 len cap1 zs p w1 HL.out (by omega) hlc1 HN1.out HR1.out HZ.out
  rw [HRD.out] at c2
  refine c2.mono ?_
  clear c2
  rintro e w2 ⟨rfl, rfl⟩
  unfold tripT
  go_wp2_with fail
  have c3 := refReadText_any a len cap zs p w2 HL.out (by omega) hlc (HR.out.below hb1 (Nat.le_refl _)) HZ.out
  rw [HRD.out] at c3
  refine c3.mono ?_
  clear c3
  rintro e w3 ⟨rfl, rfl⟩
  unfold tripT
  go_wp2_with fail
  refine (text_any s w3 hs).mono ?_
  rintro e w4 ⟨a4, cap4, rfl, hown4, hb4⟩
  obtain ⟨hl4, hlc4, hm4, hn4, hr4⟩ := own_row' hown4 HB.out
  clear hl4 hm4 hn4 hlc4 hown4
  have HR4 := hide hr4
  clear hr4
  have hb14 : Below w.heap.size w w4 := hb1.trans (hb4.mono hb1.size)
  have HR1' := hide (HR1.out.below hb4 (Nat.le_refl _))
  clear HR1 hb1 hb4
  go_wp2_with fail
  refine (refText_any s w4 hs).mono ?_
  rintro e w5 ⟨a5, cap5, rfl, hown5, hb5⟩
  obtain ⟨hl5, hlc5, hm5, hn5, hr5⟩ := own_row' hown5 HB.out
  clear hl5 hm5 hn5 hlc5 hown5
  have HR5 := hide hr5
  have HR4' := hide (HR4.out.below hb5 (Nat.le_refl _))
  have hb15 : Below w.heap.size w w5 := hb14.trans (hb5.mono hb14.size)
  have HR1 := hide (HR1'.out.below hb5 (Nat.le_refl _))
  clear HR1' HR4 hb14 hb5 hr5
  go_wp2_with fail
  have c6 := same_any a4 a5 _ cap4 _ cap5 (textB s) (textB s) w5 rfl rfl (by have := HU.out; have := HTL.out; omega) HR4'.out HR5.out
  rw [decide_eq_true (show textB s = textB s from rfl)] at c6
  refine c6.mono ?_
  clear c6
  rintro e w6 ⟨rfl, hb6⟩
  have hb16 : Below w.heap.size w w6 := hb15.trans (hb6.mono hb15.size)
  have HR1' := hide (HR1.out.below hb6 (Nat.le_refl _))
  clear HR1 HR4' HR5 hb15 hb6
  go_wp2_with (go_at_call 15; refine (num_any _ _).mono ?_; rintro e w' ⟨rfl, rfl⟩)
  have c7 := same_any a1 a len cap1 len cap zs zs w' HL.out HL.out (by omega) HR1'.out (HR.out.below hb16 (Nat.le_refl _))
  rw [decide_eq_true (show zs = zs from rfl)] at c7
  refine c7.mono ?_
  clear c7
  rintro e w7 ⟨rfl, hb7⟩
  have hb17 : Below w.heap.size w w7 := hb16.trans (hb7.mono hb16.size)
  clear HR1' hb16 hb7
  go_wp2_with fail
  refine (alive_any w7).mono ?_
  rintro e w8 ⟨rfl, hb8⟩
  have hb18 : Below w.heap.size w w8 := hb17.trans (hb8.mono hb17.size)
  clear hb17 hb8
  go_wp2
  go_ret
  exact ⟨rfl, hb18⟩

end Go.Proofs.Ytkiigmfdfkflpaa
