/- PriorCycles, walked. -/
import Derived.Test.YtjaffhajehcnpaaSmL
namespace Go.Proofs.Ytjaffhajehcnpaa
open Go.RowKit

/-- What is held while the last statement draws its order. -/
abbrev Bx4 (wz : World) (q : Nat) (u0 u1 u2 u3 : Value) (X : World) : Prop := X.cell? ⟨q, 0, none⟩ = some u0 ∧ X.cell? ⟨q, 1, none⟩ = some u1 ∧ X.cell? ⟨q, 2, none⟩ = some u2 ∧ X.cell? ⟨q, 3, none⟩ = some u3 ∧ q < wz.heap.size ∧ Below wz.heap.size wz X
theorem Bx4.b {wz X : World} {q : Nat} {u0 u1 u2 u3 : Value} (h : Bx4 wz q u0 u1 u2 u3 X) : Below wz.heap.size wz X := h.2.2.2.2.2
theorem Bx4.drew {wz X : World} {q : Nat} {u0 u1 u2 u3 : Value} (h : Bx4 wz q u0 u1 u2 u3 X) : Bx4 wz q u0 u1 u2 u3 X.drew := ⟨h.1, h.2.1, h.2.2.1, h.2.2.2.1, h.2.2.2.2.1, h.2.2.2.2.2.drew⟩
theorem Bx4.below {wz X Y : World} {q : Nat} {u0 u1 u2 u3 : Value} (h : Bx4 wz q u0 u1 u2 u3 X) (hb : Below X.heap.size X Y) : Bx4 wz q u0 u1 u2 u3 Y := by
  obtain ⟨h1, h2, h3, h4, h5, h6⟩ := h
  have hs := h6.size
  have hq : q < X.heap.size := by omega
  refine ⟨?_, ?_, ?_, ?_, h5, h6.trans (hb.mono hs)⟩ <;> rw [hb.cell (by assumption)] <;> assumption
/-- An order told. -/
theorem order_case {next : List (List Int)} {out out' : List Nat} (h1 : Kahn next out) (h2 : KMax next out) (h3 : Kahn (plainM next) out') (h4 : KMax (plainM next) out') : out' = out := kahn_uniq (plain_kahn.1 h3) (plain_kmax.1 h4) h1 h2
set_option maxRecDepth 100000 in
set_option maxHeartbeats 12800000 in
theorem cycles_end {wz : World} {B : List (List Int)} {u0 u1 u2 : Value} {ba : Option Addr} {bc : Nat} (hB : Lists wz.heap.size wz B (.slice ba B.length bc)) (x y : Int) : Hid ((∀ X, Below wz.heap.size wz X → Calls Try.prog 13 #[.agg #[u0, u1, u2, .slice ba B.length bc], .int .i64 x, .int .i64 y] X fun e w' => e = .returned (.bool (btB B x y)) ∧ Below X.heap.size X w') ∧ (∀ X, Below wz.heap.size wz X → Calls Try.prog 14 #[.agg #[u0, u1, u2, .slice ba B.length bc], .int .i64 x, .int .i64 y] X fun e w' => e = .returned (.bool (btB B x y)) ∧ Below X.heap.size X w')) :=
  hide ⟨fun _ hX => beats_any (Lists.go hX hB) x y, fun _ hX => rbeats_any (Lists.go hX hB) x y⟩
set_option maxRecDepth 100000 in
set_option maxHeartbeats 12800000 in
theorem priorCycles_any {w : World} {next B : List (List Int)} {a ba : Option Addr} {c bc : Nat} {u0 u1 u2 : Value} (h : Lists w.heap.size w next (.slice a next.length c)) (hn : next.length ≤ 1048576) (ht : total next ≤ 1048576) (hB : Lists w.heap.size w B (.slice ba B.length bc)) (x y : Int) :
    Calls Try.prog 3 #[.slice a next.length c, .agg #[u0, u1, u2, .slice ba B.length bc], .int .i64 x, .int .i64 y] w fun e w' => e = .returned (.bool true) ∧ Below w.heap.size w w' := by
  have hA := below_new w (.cells #[u0, u1, u2, .slice ba B.length bc] 25)
  have HFX := hide (fx_new w [u0, u1, u2, .slice ba B.length bc] 25)
  have HBA := hide hA
  have HLB := hide hB
  obtain ⟨n, hnn⟩ : ∃ n, next.length = n := ⟨_, rfl⟩
  have HNN := hide hnn
  have HLN := hide h
  have HC1 := hide (plain_any (Lists.go hA h) hn ht)
  have HC2 : Hid (∀ w1, Below w.heap.size w w1 → Calls Try.prog 6 #[.slice a n c] w1 fun e w' => ∃ va vc, e = .returned (.slice va n vc) ∧ Lists w'.heap.size w' next (.slice va n vc) ∧ Below w1.heap.size w1 w') := hide fun w1 hb => by
    have := copyLists_any (Lists.go hb h) (Nat.le_refl _) hn ht
    rw [hnn] at this
    exact this
  have HC3 : Hid (∀ (w1 : World) va vc, Lists w1.heap.size w1 next (.slice va n vc) → Calls Try.prog 7 #[.slice va n vc] w1 _) := hide fun w1 va vc hl => by rw [← hnn] at hl ⊢; exact cycle_any hl hn ht
  have HC4 : Hid (∀ (w1 : World) va vc, Lists w1.heap.size w1 next (.slice va n vc) → Calls Try.prog 8 #[.slice va n vc] w1 _) := hide fun w1 va vc hl => by rw [← hnn] at hl ⊢; exact order_any hl hn ht
  have HC5 : Hid (∀ (w1 : World) va, Lists w1.heap.size w1 (plainM next) (.slice va n n) → Calls Try.prog 9 #[.slice va n n] w1 _) := hide fun w1 va hl => by
    have e : (plainM next).length = n := by rw [plain_len]; exact hnn
    have := rorder_any (w := w1) (next := plainM next) (a := va) (c := n) (by rw [e]; exact hl) (by rw [e, ← hnn]; exact hn)
    rw [e] at this
    exact this
  have HC6 : Hid (∀ (w1 : World) va vc, Lists w1.heap.size w1 next (.slice va n vc) → Lists w1.heap.size w1 next (.slice a n c) → Calls Try.prog 11 #[.slice va n vc, .slice a n c] w1 fun e w' => e = .returned (.bool true) ∧ Below w1.heap.size w1 w') := hide fun w1 va vc h1 h2 => by rw [← hnn] at h1 h2 ⊢; exact sameLists_yes h1 h2
  rw [hnn] at hn HLN HC1 ⊢
  clear h hB hA hnn
  go_enter Try.func3, Try.ntmps3
  go_upto_region 1 with fail
  have hs0 : w.heap.size < (w.alloc (.cells #[u0, u1, u2, .slice ba B.length bc] 25)).heap.size := HFX.out.lt
  generalize w.alloc (.cells #[u0, u1, u2, .slice ba B.length bc] 25) = w0 at *
  go_upto_region 2 with (go_at_call 5; refine HC1.out.mono ?_; rintro e w1 ⟨xa, rfl, hx1, hb1⟩; have HX1 := hide hx1; have HB1 := hide hb1; clear hx1 hb1)
  have HW1 : Hid (Below w.heap.size w w1) := hide (HBA.out.trans (HB1.out.mono (by omega)))
  go_upto_region 3 with (go_at_call 6; refine (HC2.out w1 HW1.out).mono ?_; rintro e w2 ⟨va, vc, rfl, hv2, hb2⟩; have HV2 := hide hv2; have HB2 := hide hb2; clear hv2 hb2)
  go_upto_region 4 with (go_at_call 7; refine (HC3.out w2 va vc HV2.out).mono ?_; rintro e w3 ⟨hb3, hcy⟩; have HB3 := hide hb3; have HCY := hide hcy; clear hb3 hcy; rcases HCY.out with ⟨l, v, rfl, hcy, hro⟩ | ⟨rfl, hac⟩)
  · obtain ⟨la, lc, rfl⟩ := owns_slice hro
    have HIC := hide hcy
    have HRO := hide (owns_at1 hro)
    clear hcy hro HCY
    obtain ⟨ml, hml⟩ : ∃ ml, l.length = ml := ⟨_, rfl⟩
    have HML := hide hml
    rw [hml]
    clear hml
    have HV3 := hide (Lists.go HB3.out HV2.out)
    go_upto_region 5 with (go_at_call 8; refine (HC4.out w3 va vc HV3.out).mono ?_; rintro e w4 ⟨out, k1, k2, hb4, hcase⟩; have HK1 := hide k1; have HK2 := hide k2; have HB4 := hide hb4; have HCS := hide hcase; clear k1 k2 hb4 hcase; rcases HCS.out with ⟨hol, rfl⟩ | ⟨hol, ov, rfl, hro⟩)
    · have HOL := hide hol
      clear hol HCS
      have HX4 := hide (Lists.go HB4.out (Lists.go HB3.out (Lists.go HB2.out HX1.out)))
      go_upto_region 6 with (go_at_call 9; refine (HC5.out w4 xa HX4.out).mono ?_; rintro e w5 ⟨out', k1, k2, hb5, hcase⟩; have HEQ := hide (order_case HK1.out HK2.out k1 k2); have HB5 := hide hb5; have HCS := hide hcase; clear k1 k2 hb5 hcase; rcases HCS.out with ⟨hol, rfl⟩ | ⟨hol, ov, rfl, hro⟩)
      · clear hol HCS
        have HB05 : Hid (Below w0.heap.size w0 w5) := hide (by
          have s1 := HB1.out.size
          have s2 := HB2.out.size
          have s3 := HB3.out.size
          have s4 := HB4.out.size
          exact (((HB1.out.trans (HB2.out.mono s1)).trans (HB3.out.mono (by omega))).trans (HB4.out.mono (by omega))).trans (HB5.out.mono (by omega)))
        have HV5 := hide (Lists.go HB5.out (Lists.go HB4.out HV3.out))
        have HN5 : Hid (Lists w5.heap.size w5 next (.slice a n c)) := hide (Lists.go (HBA.out.trans (HB05.out.mono (by omega))) HLN.out)
        have CSI := hide (sameInts_yes (w := w5) (l := []) (a := none) (b := none) (c := 0) (d := 0) (fun i v hi => by simp [ints] at hi) (fun i v hi => by simp [ints] at hi) (by simp))
        go_upto_region 8 with (first | (go_at_call 10; refine CSI.out.mono ?_; rintro e w6 ⟨rfl, hb6⟩; have HB6 := hide hb6; have HV6 := hide (Lists.go hb6 HV5.out); have HN6 := hide (Lists.go hb6 HN5.out); clear hb6) | (go_at_call 11; refine (HC6.out w6 va vc HV6.out HN6.out).mono ?_; rintro e w7 ⟨rfl, hb7⟩; have HB7 := hide (HB6.out.trans (hb7.mono HB6.out.size)); clear hb7))
        clear CSI
        have hN7 := HB7.out.size
        have CIC := hide (isCycle_any (N := w5.heap.size) (w := w7) (next := plainM next) (a := xa) (n := n) (c := n) ((Lists.go HB5.out HX4.out).keep HB7.out.block) (by rw [plain_len]; exact HNN.out) hn hN7 (plain_cyc HIC.out) (lc := lc) ((((HRO.out.below HB4.out).below HB5.out)).below HB7.out))
        rw [HML.out] at CIC
        go_upto_region 10 with (go_at_call 12; refine CIC.out.mono ?_; rintro e wz ⟨rfl, hbz⟩; have HBW := hide (HB7.out.trans (hbz.mono HB7.out.size)); clear hbz)
        clear CIC HB7 HB6 HV6 HN6 HV5 HN5 hN7 HIC HRO
        have hsz : w0.heap.size ≤ w5.heap.size := HB05.out.size
        have HBz : Hid (Below w0.heap.size w0 wz) := hide (HB05.out.trans (HBW.out.mono hsz))
        have hszz : w0.heap.size ≤ wz.heap.size := HBz.out.size
        have HFz := hide (HFX.out.keep (HBz.out.block _ hs0))
        have HE := cycles_end (u0 := u0) (u1 := u1) (u2 := u2) (Lists.go (HBA.out.trans (HBz.out.mono (by omega))) HLB.out) x y
        have HT : Bx4 wz w.heap.size u0 u1 u2 (.slice ba B.length bc) wz := ⟨HFz.out.get rfl, HFz.out.get rfl, HFz.out.get rfl, HFz.out.get rfl, HFz.out.lt, Below.refl _ _⟩
        have HRES : Hid (Below w.heap.size w wz) := hide (HBA.out.trans (HBz.out.mono (by omega)))
        have hwz : w.heap.size ≤ wz.heap.size := by omega
        generalize btB B x y = bv at *
        clear HC1 HC2 HC3 HC4 HC5 HC6 HFX HBA HX1 HB1 HW1 HV2 HB2 HB3 HV3 HB4 HX4 HB5 HBW HBz HFz HB05 hsz hszz hs0 HLB HLN
        go_upto_region 10 with fail
        cases bv with
        | true =>
          go_region_held3 (fun X : World => Bx4 wz w.heap.size u0 u1 u2 (.slice ba B.length bc) X) (first | exact Bx4.drew ‹_› | assumption | exact Bx4.below ‹_› ‹_›) (first | (go_at_call 13; refine (HE.out.1 _ (Bx4.b ‹_›)).mono ?_; rintro e w' ⟨rfl, hb⟩) | (go_at_call 14; refine (HE.out.2 _ (Bx4.b ‹_›)).mono ?_; rintro e w' ⟨rfl, hb⟩) | (go_at_call 15; refine (alive_any _).mono ?_; rintro e w' ⟨rfl, hb⟩))
          rename_i hS
          go_wp2_with fail
          go_ret
          exact ⟨rfl, HRES.out.trans ((Bx4.b hS).mono hwz)⟩
        | false =>
          go_region_held3 (fun X : World => Bx4 wz w.heap.size u0 u1 u2 (.slice ba B.length bc) X) (first | exact Bx4.drew ‹_› | assumption | exact Bx4.below ‹_› ‹_›) (first | (go_at_call 13; refine (HE.out.1 _ (Bx4.b ‹_›)).mono ?_; rintro e w' ⟨rfl, hb⟩) | (go_at_call 14; refine (HE.out.2 _ (Bx4.b ‹_›)).mono ?_; rintro e w' ⟨rfl, hb⟩) | (go_at_call 15; refine (alive_any _).mono ?_; rintro e w' ⟨rfl, hb⟩))
          rename_i hS
          go_wp2_with fail
          go_ret
          exact ⟨rfl, HRES.out.trans ((Bx4.b hS).mono hwz)⟩
      · exfalso
        have := HOL.out
        rw [HEQ.out] at hol
        rw [HNN.out] at this
        omega
    · exact (acy_cyc (kahn_acy HK1.out hol) HIC.out).elim
  · have HAC := hide hac
    clear hac HCY
    have HV3 := hide (Lists.go HB3.out HV2.out)
    go_upto_region 5 with (go_at_call 8; refine (HC4.out w3 va vc HV3.out).mono ?_; rintro e w4 ⟨out, k1, k2, hb4, hcase⟩; have HK1 := hide k1; have HK2 := hide k2; have HB4 := hide hb4; have HCS := hide hcase; clear k1 k2 hb4 hcase; rcases HCS.out with ⟨hol, rfl⟩ | ⟨hol, ov, rfl, hro⟩)
    · exact (kahn_cyc HK2.out hol HAC.out).elim
    · obtain ⟨oa, oc, rfl⟩ := owns_slice hro
      have HRO := hide (owns_at1 hro)
      have HOL : Hid (out.length = n) := hide (hol.trans HNN.out)
      rw [HOL.out]
      clear hol hro HCS
      have HX4 := hide (Lists.go HB4.out (Lists.go HB3.out (Lists.go HB2.out HX1.out)))
      go_upto_region 6 with (go_at_call 9; refine (HC5.out w4 xa HX4.out).mono ?_; rintro e w5 ⟨out', k1, k2, hb5, hcase⟩; have HEQ := hide (order_case HK1.out HK2.out k1 k2); have HB5 := hide hb5; have HCS := hide hcase; clear k1 k2 hb5 hcase; rcases HCS.out with ⟨hol, rfl⟩ | ⟨hol, ov, rfl, hro⟩)
      · exfalso
        have := HOL.out
        rw [HEQ.out] at hol
        omega
      · obtain ⟨pa, pc, rfl⟩ := owns_slice hro
        have HRP : Hid (At1 w5 pa (ints (zn out))) := hide (by have := owns_at1 hro; rw [HEQ.out] at this; exact this)
        rw [hol]
        clear hol hro HCS
        have HB05 : Hid (Below w0.heap.size w0 w5) := hide (by
          have s1 := HB1.out.size
          have s2 := HB2.out.size
          have s3 := HB3.out.size
          have s4 := HB4.out.size
          exact (((HB1.out.trans (HB2.out.mono s1)).trans (HB3.out.mono (by omega))).trans (HB4.out.mono (by omega))).trans (HB5.out.mono (by omega)))
        have HV5 := hide (Lists.go HB5.out (Lists.go HB4.out HV3.out))
        have HN5 : Hid (Lists w5.heap.size w5 next (.slice a n c)) := hide (Lists.go (HBA.out.trans (HB05.out.mono (by omega))) HLN.out)
        have CSI := hide (sameInts_yes (w := w5) (l := zn out) (a := oa) (b := pa) (c := oc) (d := pc) (HRO.out.below HB5.out) HRP.out (by rw [zn_len, HOL.out]; omega))
        rw [zn_len, HOL.out] at CSI
        go_upto_region 8 with (first | (go_at_call 10; refine CSI.out.mono ?_; rintro e w6 ⟨rfl, hb6⟩; have HB6 := hide hb6; have HV6 := hide (Lists.go hb6 HV5.out); have HN6 := hide (Lists.go hb6 HN5.out); clear hb6) | (go_at_call 11; refine (HC6.out w6 va vc HV6.out HN6.out).mono ?_; rintro e w7 ⟨rfl, hb7⟩; have HB7 := hide (HB6.out.trans (hb7.mono HB6.out.size)); clear hb7))
        clear CSI
        have HBW := hide HB7.out
        clear HB7 HB6 HV6 HN6 HV5 HN5 HRO HRP
        rename World => wz
        have hsz : w0.heap.size ≤ w5.heap.size := HB05.out.size
        have HBz : Hid (Below w0.heap.size w0 wz) := hide (HB05.out.trans (HBW.out.mono hsz))
        have hszz : w0.heap.size ≤ wz.heap.size := HBz.out.size
        have HFz := hide (HFX.out.keep (HBz.out.block _ hs0))
        have HE := cycles_end (u0 := u0) (u1 := u1) (u2 := u2) (Lists.go (HBA.out.trans (HBz.out.mono (by omega))) HLB.out) x y
        have HT : Bx4 wz w.heap.size u0 u1 u2 (.slice ba B.length bc) wz := ⟨HFz.out.get rfl, HFz.out.get rfl, HFz.out.get rfl, HFz.out.get rfl, HFz.out.lt, Below.refl _ _⟩
        have HRES : Hid (Below w.heap.size w wz) := hide (HBA.out.trans (HBz.out.mono (by omega)))
        have hwz : w.heap.size ≤ wz.heap.size := by omega
        generalize btB B x y = bv at *
        clear HC1 HC2 HC3 HC4 HC5 HC6 HFX HBA HX1 HB1 HW1 HV2 HB2 HB3 HV3 HB4 HX4 HB5 HBW HBz HFz HB05 hsz hszz hs0 HLB HLN
        go_upto_region 10 with fail
        cases bv with
        | true =>
          go_region_held3 (fun X : World => Bx4 wz w.heap.size u0 u1 u2 (.slice ba B.length bc) X) (first | exact Bx4.drew ‹_› | assumption | exact Bx4.below ‹_› ‹_›) (first | (go_at_call 13; refine (HE.out.1 _ (Bx4.b ‹_›)).mono ?_; rintro e w' ⟨rfl, hb⟩) | (go_at_call 14; refine (HE.out.2 _ (Bx4.b ‹_›)).mono ?_; rintro e w' ⟨rfl, hb⟩) | (go_at_call 15; refine (alive_any _).mono ?_; rintro e w' ⟨rfl, hb⟩))
          rename_i hS
          go_wp2_with fail
          go_ret
          exact ⟨rfl, HRES.out.trans ((Bx4.b hS).mono hwz)⟩
        | false =>
          go_region_held3 (fun X : World => Bx4 wz w.heap.size u0 u1 u2 (.slice ba B.length bc) X) (first | exact Bx4.drew ‹_› | assumption | exact Bx4.below ‹_› ‹_›) (first | (go_at_call 13; refine (HE.out.1 _ (Bx4.b ‹_›)).mono ?_; rintro e w' ⟨rfl, hb⟩) | (go_at_call 14; refine (HE.out.2 _ (Bx4.b ‹_›)).mono ?_; rintro e w' ⟨rfl, hb⟩) | (go_at_call 15; refine (alive_any _).mono ?_; rintro e w' ⟨rfl, hb⟩))
          rename_i hS
          go_wp2_with fail
          go_ret
          exact ⟨rfl, HRES.out.trans ((Bx4.b hS).mono hwz)⟩
end Go.Proofs.Ytjaffhajehcnpaa
