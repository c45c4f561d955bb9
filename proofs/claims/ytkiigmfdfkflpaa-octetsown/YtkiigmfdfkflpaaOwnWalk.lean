/- OctetsOwn, walked: of any number and texts it returns true and turns nothing that was there. -/
import Derived.Test.YtkiigmfdfkflpaaCopy
import Derived.Test.YtkiigmfdfkflpaaText
import Derived.Test.YtkiigmfdfkflpaaUnhex
import Derived.Test.YtkiigmfdfkflpaaAlive
namespace Go.Proofs.Ytkiigmfdfkflpaa
open Go.RowKit

theorem text_bytes (s : ByteArray) (hs : s.size ≤ 140737488351232) : ∀ z ∈ textB s, 0 ≤ z ∧ z ≤ 255 := by
  intro z hz
  rcases List.mem_append.1 hz with h | h
  · exact uintB_byte 9 _ (by omega) (by omega) z h
  · exact strB_byte s z h

/-- A cell of a row of its own, to be written. -/
theorem own_at {w : World} {base : Nat} {a : Option Addr} {n cap k : Nat} {xs : List Value} (h : w.ownsRow base 5 1 (.slice a n cap) n xs) (hk : k < n) :
    ∃ g u, a = some ⟨g, 0, none⟩ ∧ base ≤ g ∧ w.cell? ⟨g, k, none⟩ = some u ∧ w.frozen? ⟨g, k, none⟩ = false ∧ ∀ v, (w.setCell ⟨g, k, none⟩ v).ownsRow base 5 1 (.slice a n cap) n (xs.set k v) := by
  rcases h.2 with ⟨_, h0⟩ | ⟨g, cap', cur, e, hbg, hgg, _⟩
  · omega
  · simp only [Value.slice.injEq, true_and] at e
    obtain ⟨rfl, rfl⟩ := e
    have hl : k < xs.length := by have := h.1; omega
    exact ⟨g, xs[k], rfl, hbg, by rw [h.cellAt k (by omega)]; simp [hl], h.frozenAt k, fun v => (h.stored k v).1⟩

set_option maxHeartbeats 1000000 in
theorem own_walk (n : Int) (s t : ByteArray) (w : World) (h0 : 0 ≤ n) (h1 : n < 18446744073709551616) (hs : s.size ≤ 140737488351232) (ht : t.size ≤ 140737488351232) :
    Calls Try.prog 8 #[.int .u64 n, .string s, .string t] w fun e w' => e = .returned (.bool true) ∧ Below w.heap.size w w' := by
  have HBu := hide (bytes_getD (zs := uintB 9 n) (uintB_byte 9 n h0 (by omega)))
  have HBt := hide (bytes_getD (zs := textB s) (text_bytes s hs))
  have HBx := hide (bytes_getD (unhexS_byte (strB t)))
  have HUl := hide (uintB_len 9 n)
  have HTl : Hid ((textB s).length ≤ 140737488351242) := by have := uintB_len 9 (s.size : Int); unfold Hid; rw [textB_len]; omega
  have HXl : Hid ((unhexS (strB t)).1.length ≤ 140737488351232) := by have := unhexS_len (strB t); rw [strB_len] at this; unfold Hid; omega
  go_enter Try.func8, Try.ntmps8
  go_wp2_with fail
  refine (alive_any w).mono ?_
  rintro e w1 ⟨rfl, hb1⟩
  go_wp2_with fail
  refine (uint_any n w1 h0 h1).mono ?_
  rintro e w2 ⟨v, rfl, hown2, hb2⟩
  obtain ⟨a2, cap2, hv⟩ := own_shape hown2
  subst hv
  have HR2 := hide (own_row' hown2 HBu.out).2.2.2.2
  have hb12 : Below w.heap.size w w2 := hb1.trans (hb2.mono hb1.size)
  clear hown2 hb1 hb2
  go_wp2_with fail
  refine (text_any s w2 hs).mono ?_
  rintro e w3 ⟨a3, cap3, rfl, hown3, hb3⟩
  have HR3 := hide (own_row' hown3 HBt.out).2.2.2.2
  have HR2b := hide (HR2.out.below hb3 (Nat.le_refl _))
  have hb13 : Below w.heap.size w w3 := hb12.trans (hb3.mono hb12.size)
  clear hown3 hb3 hb12 HR2
  have hc4 := unhex_any t w3 ht
  generalize hX : unhexS (strB t) = X at *
  obtain ⟨xs, xe, xp⟩ := X
  have HX := hide hX
  clear hX
  go_wp2_with fail
  refine hc4.mono ?_
  clear hc4
  rintro e w4 ⟨a4, cap4, rfl, hown4, hb4⟩
  have hr4 := own_row' hown4 HBx.out
  have HR4 := hide hr4.2.2.2.2
  have hlc4 := hr4.2.1
  have HR2 := hide (HR2b.out.below hb4 (Nat.le_refl _))
  have HR3b := hide (HR3.out.below hb4 (Nat.le_refl _))
  have hb14 : Below w.heap.size w w4 := hb13.trans (hb4.mono hb13.size)
  clear hown4 hb4 hb13 HR3 HR2b hr4
  go_wp2_with fail
  refine (copy_any a4 xs.length cap4 xs w4 rfl (by have := HXl.out; omega) HR4.out).mono ?_
  rintro e w5 ⟨v, rfl, hown5, hb5⟩
  obtain ⟨a5, cap5, hv⟩ := own_shape hown5
  subst hv
  have HR5 := hide (own_row' hown5 HBx.out).2.2.2.2
  have HR2b := hide (HR2.out.below hb5 (Nat.le_refl _))
  have HR3 := hide (HR3b.out.below hb5 (Nat.le_refl _))
  have HR4b := hide (HR4.out.below hb5 (Nat.le_refl _))
  have hb15 : Below w.heap.size w w5 := hb14.trans (hb5.mono hb14.size)
  clear hown5 hb5 hb14 HR2 HR3b HR4
  go_wp2_with fail
  refine (uint_any n w5 h0 h1).mono ?_
  rintro e w6 ⟨v, rfl, hown6, hb6⟩
  obtain ⟨a6, cap6, hv⟩ := own_shape hown6
  subst hv
  go_wp2_with fail
  refine (text_any s w6 hs).mono ?_
  rintro e w7 ⟨a7, cap7, rfl, hown7, hb7⟩
  have hown67 := own_below hown6 hb7 (Nat.le_refl _)
  have hb57 : Below w5.heap.size w5 w7 := hb6.trans (hb7.mono hb6.size)
  have hs67 := hb7.size
  have hs56 := hb6.size
  have hlt6 := hown6.lt
  clear hown6 hb6 hb7
  have hc8 := unhex_any t w7 ht
  rw [HX.out] at hc8
  go_wp2_with fail
  refine hc8.mono ?_
  clear hc8
  rintro e w8 ⟨a8, cap8, rfl, hown8, hb8⟩
  have hown68 := own_below hown67 hb8 (Nat.le_refl _)
  have hown78 := own_below hown7 hb8 (Nat.le_refl _)
  have hlt7 := hown7.lt
  have hb58 : Below w5.heap.size w5 w8 := hb57.trans (hb8.mono hb57.size)
  have hs78 := hb8.size
  clear hown67 hown7 hb57 hb8
  have HUl2 : Hid ((uintB 9 n).length ≤ 10) := HUl.out
  generalize hU : uintB 9 n = us at *
  generalize hT : textB s = ts at *
  have HU := hide hU
  have HT := hide hT
  clear hU hT
  have hul : us.length ≤ 10 := HUl2.out
  have htl : ts.length ≤ 140737488351242 := HTl.out
  have hxl : xs.length ≤ 140737488351232 := HXl.out
  generalize (us.map (Value.int .u8)) = uv at *
  generalize (ts.map (Value.int .u8)) = tv at *
  generalize (xs.map (Value.int .u8)) = xv at *
  have HL6 : Hid (∀ k, (Value.slice a6 us.length cap6).ownBlock = some k → k < w6.heap.size) := fun k hk => (hlt6 k hk).2
  have HL7 : Hid (∀ k, (Value.slice a7 ts.length cap7).ownBlock = some k → k < w7.heap.size) := fun k hk => (hlt7 k hk).2
  clear hlt6 hlt7
  go_wp2_with fail
  go_loopw [18] (fun i wr => ∃ (k : Nat) (l : List Value), k ≤ us.length ∧ i = .int .i64 k ∧ wr.ownsRow w5.heap.size 5 1 (.slice a6 us.length cap6) us.length l ∧ wr.ownsRow w6.heap.size 5 1 (.slice a7 ts.length cap7) ts.length tv ∧ wr.ownsRow w7.heap.size 5 1 (.slice a8 xs.length cap8) xs.length xv ∧ Below w5.heap.size w5 wr)
    (fun i _ => us.length - (intOf i).toNat)
  case atStart => exact ⟨0, uv, Nat.zero_le _, rfl, hown68, hown78, hown8, hb58⟩
  case round =>
    clear hown68 hown78 hown8 hb58
    obtain ⟨k, l, hk, rfl, ho6, ho7, ho8, hbel⟩ := hrel
    by_cases hlt : k < us.length
    · obtain ⟨g, u, ha, hg, hcx, hfr, hst⟩ := own_at ho6 hlt
      subst ha
      have hg6 : g < w6.heap.size := HL6.out g rfl
      have HS6 := hide (hst (.int .u8 85))
      have HS7 := hide (ownsRow_setCell_below ho7 (a := ⟨g, k, none⟩) hg6 (.int .u8 85))
      have HS8 := hide (ownsRow_setCell_below ho8 (a := ⟨g, k, none⟩) (Nat.lt_of_lt_of_le hg6 hs67) (.int .u8 85))
      have HSB := hide (hbel.setCell (p := ⟨g, k, none⟩) hg (.int .u8 85))
      clear hst ho6 ho7 ho8 hbel
      go_wp2_with fail
      go_roundw
      case rel => exact ⟨k + 1, _, by omega, by go_num, HS6.out, HS7.out, HS8.out, HSB.out⟩
      case measure => simp [intOf]; omega
    · clear ho6
      go_wp2_with fail
      go_loopw [19] (fun i wr => ∃ (k : Nat) (l : List Value), k ≤ ts.length ∧ i = .int .i64 k ∧ wr.ownsRow w6.heap.size 5 1 (.slice a7 ts.length cap7) ts.length l ∧ wr.ownsRow w7.heap.size 5 1 (.slice a8 xs.length cap8) xs.length xv ∧ Below w5.heap.size w5 wr)
        (fun i _ => ts.length - (intOf i).toNat)
      case atStart => exact ⟨0, tv, Nat.zero_le _, rfl, ho7, ho8, hbel⟩
      case round =>
        clear ho7 ho8 hbel
        obtain ⟨k, l, hk, rfl, ho7, ho8, hbel⟩ := hrel
        by_cases hlt : k < ts.length
        · obtain ⟨g, u, ha, hg, hcx, hfr, hst⟩ := own_at ho7 hlt
          subst ha
          have hg7 : g < w7.heap.size := HL7.out g rfl
          have HS7 := hide (hst (.int .u8 85))
          have HS8 := hide (ownsRow_setCell_below ho8 (a := ⟨g, k, none⟩) hg7 (.int .u8 85))
          have HSB := hide (hbel.setCell (p := ⟨g, k, none⟩) (Nat.le_trans hs56 hg) (.int .u8 85))
          clear hst ho7 ho8 hbel
          go_wp2_with fail
          go_roundw
          case rel => exact ⟨k + 1, _, by omega, by go_num, HS7.out, HS8.out, HSB.out⟩
          case measure => simp [intOf]; omega
        · clear ho7
          go_wp2_with fail
          go_loopw [20] (fun i wr => ∃ (k : Nat) (l : List Value), k ≤ xs.length ∧ i = .int .i64 k ∧ wr.ownsRow w7.heap.size 5 1 (.slice a8 xs.length cap8) xs.length l ∧ Below w5.heap.size w5 wr)
            (fun i _ => xs.length - (intOf i).toNat)
          case atStart => exact ⟨0, xv, Nat.zero_le _, rfl, ho8, hbel⟩
          case round =>
            clear ho8 hbel
            obtain ⟨k, l, hk, rfl, ho8, hbel⟩ := hrel
            by_cases hlt : k < xs.length
            · obtain ⟨g, u, ha, hg, hcx, hfr, hst⟩ := own_at ho8 hlt
              subst ha
              have HS8 := hide (hst (.int .u8 85))
              have HSB := hide (hbel.setCell (p := ⟨g, k, none⟩) (Nat.le_trans hs56 (Nat.le_trans hs67 hg)) (.int .u8 85))
              clear hst ho8 hbel
              go_wp2_with fail
              go_roundw
              case rel => exact ⟨k + 1, _, by omega, by go_num, HS8.out, HSB.out⟩
              case measure => simp [intOf]; omega
            · clear ho8
              have hb9 : Below w.heap.size w wr := hb15.trans (hbel.mono hb15.size)
              have H2 := hide (HR2b.out.below hbel (Nat.le_refl _))
              have H3 := hide (HR3.out.below hbel (Nat.le_refl _))
              have H4 := hide (HR4b.out.below hbel (Nat.le_refl _))
              have H5 := hide (HR5.out.below hbel (Nat.le_refl _))
              clear hbel
              go_wp2_with fail
              have cA := refUint_any 9 n wr (by omega) h0 (by omega) (by omega)
              rw [HU.out] at cA
              refine cA.mono ?_
              clear cA
              rintro e wA ⟨aA, capA, rfl, hownA, hbA⟩
              have HA := hide (own_row' hownA HBu.out).2.2.2.2
              have H2a := hide (H2.out.below hbA (Nat.le_refl _))
              have H3a := hide (H3.out.below hbA (Nat.le_refl _))
              have H4a := hide (H4.out.below hbA (Nat.le_refl _))
              have H5a := hide (H5.out.below hbA (Nat.le_refl _))
              have hb10 : Below w.heap.size w wA := hb9.trans (hbA.mono hb9.size)
              clear hownA hbA hb9 H2 H3 H4 H5
              go_wp2_with fail
              have cB := same_any a2 aA _ cap2 _ capA us us wA rfl rfl (by omega) H2a.out HA.out
              rw [decide_eq_true (show us = us from rfl)] at cB
              refine cB.mono ?_
              clear cB
              rintro e wB ⟨rfl, hbB⟩
              have H3 := hide (H3a.out.below hbB (Nat.le_refl _))
              have H4 := hide (H4a.out.below hbB (Nat.le_refl _))
              have H5 := hide (H5a.out.below hbB (Nat.le_refl _))
              have hb11 : Below w.heap.size w wB := hb10.trans (hbB.mono hb10.size)
              clear hbB hb10 H3a H4a H5a H2a HA
              go_wp2_with fail
              have cC := refText_any s wB hs
              rw [HT.out] at cC
              refine cC.mono ?_
              clear cC
              rintro e wC ⟨aC, capC, rfl, hownC, hbC⟩
              have HC := hide (own_row' hownC HBt.out).2.2.2.2
              have H3a := hide (H3.out.below hbC (Nat.le_refl _))
              have H4a := hide (H4.out.below hbC (Nat.le_refl _))
              have H5a := hide (H5.out.below hbC (Nat.le_refl _))
              have hb12 : Below w.heap.size w wC := hb11.trans (hbC.mono hb11.size)
              clear hownC hbC hb11 H3 H4 H5
              go_wp2_with fail
              have cD := same_any a3 aC _ cap3 _ capC ts ts wC rfl rfl (by omega) H3a.out HC.out
              rw [decide_eq_true (show ts = ts from rfl)] at cD
              refine cD.mono ?_
              clear cD
              rintro e wD ⟨rfl, hbD⟩
              have H4 := hide (H4a.out.below hbD (Nat.le_refl _))
              have H5 := hide (H5a.out.below hbD (Nat.le_refl _))
              have hb13 : Below w.heap.size w wD := hb12.trans (hbD.mono hb12.size)
              clear hbD hb12 H3a H4a H5a HC
              go_wp2_with fail
              have cE := same_any a4 a5 _ cap4 _ cap5 xs xs wD rfl rfl (by omega) H4.out H5.out
              rw [decide_eq_true (show xs = xs from rfl)] at cE
              refine cE.mono ?_
              clear cE
              rintro e wE ⟨rfl, hbE⟩
              have hb14 : Below w.heap.size w wE := hb13.trans (hbE.mono hb13.size)
              clear hbE hb13
              go_wp2_with fail
              go_ret
              exact ⟨rfl, hb14⟩

end Go.Proofs.Ytkiigmfdfkflpaa
