/- LexerJoins, walked. -/
import Derived.Test.YtlllgndbcagkgaaCopy
import Derived.Test.YtlllgndbcagkgaaJoin
import Derived.Test.YtlllgndbcagkgaaRefJoin
namespace Go.Proofs.Ytlllgndbcagkgaa
open Go.RowKit

theorem joinV_shape (A : List ATok) : ∃ x e n, joinV A = .tuple #[.string x, .int .i64 e, .int .i64 n] := by
  unfold joinV
  split
  · exact ⟨_, _, _, rfl⟩
  · split
    · exact ⟨_, _, _, rfl⟩
    · exact ⟨_, _, _, rfl⟩

theorem textV_shape (t : Option (List UInt8)) : ∃ x e, textV t = .tuple #[.string x, .int .i64 e] := by
  cases t with
  | none => exact ⟨_, _, rfl⟩
  | some s => exact ⟨_, _, rfl⟩

set_option maxRecDepth 100000 in
set_option maxHeartbeats 6400000 in
theorem joins_walk (a : Option Addr) (c : Nat) (A : List ATok) (w : World) (hr : RowA w a A) (hl : A.length ≤ 4398046510976) (ht : ∀ t ∈ A, t.tx.size ≤ 140737488351232) (N : Nat) (hN : A.length = N) :
    Calls Try.prog 4 #[.slice a N c] w fun e w' => e = .returned (.bool true) ∧ Below w.heap.size w w' := by
  have CN := hide num_any
  have CW := hide works_any
  have C1 := hide (copyTokens_any a c A w w.heap.size rfl hr hl)
  have C2 := hide (fun a c w hr => join_any a c A w w.heap.size rfl hr (by omega) ht)
  have C3 := hide (fun a c w hr => refJoin_any a c A w hr (by omega) ht)
  have C4 := hide (fun a b ca cb w ha hb => sameTokensA_yes a b ca cb A w ha hb (by omega))
  obtain ⟨jx, je, jn, hj⟩ := joinV_shape A
  rw [hj] at C2 C3
  rw [hN] at C1 C2 C3 C4
  have HR := hide hr
  have HT := hide ht
  have HN := hide hN
  have hNb : N ≤ 4398046510976 := by omega
  clear hj hr ht hN hl
  go_enter Try.func4, Try.ntmps4
  go_wp2_with fail
  refine C1.out.mono ?_
  rintro _ w1 ⟨v1, rfl, o1, hb1⟩
  rw [← HN.out] at o1
  obtain ⟨a1, c1, hv1, r1⟩ := own_rowA o1
  rw [HN.out] at hv1
  subst hv1
  have B1 := hide hb1
  have R1 := hide r1
  have RA1 := hide (HR.out.below (Nat.le_refl _) hb1)
  clear hb1 r1 o1 C1
  go_wp2_with fail
  refine (C2.out a1 c1 w1 R1.out).mono ?_
  rintro _ w2 ⟨rfl, hb2⟩
  have B2 : Hid (Below w.heap.size w w2) := B1.out.trans (hb2.mono B1.out.size)
  have R2 := hide (R1.out.below (Nat.le_refl _) hb2)
  have RA2 := hide (RA1.out.below (Nat.le_refl _) hb2)
  clear hb2 C2 B1 R1 RA1
  go_wp2_with fail
  refine (C3.out a c w2 RA2.out).mono ?_
  rintro _ w3 ⟨rfl, hb3⟩
  have B3 : Hid (Below w.heap.size w w3) := B2.out.trans (hb3.mono B2.out.size)
  have R3 := hide (R2.out.below (Nat.le_refl _) hb3)
  have RA3 := hide (RA2.out.below (Nat.le_refl _) hb3)
  clear hb3 C3 B2 R2 RA2
  go_wp2_with fail
  refine (CN.out _ _).mono ?_
  rintro _ w4 ⟨rfl, hw⟩
  subst w4
  go_wp2_with fail
  refine (C4.out a1 a c1 c w3 R3.out RA3.out).mono ?_
  rintro _ w4 ⟨rfl, hb4⟩
  have B4 : Hid (Below w.heap.size w w4) := B3.out.trans (hb4.mono B3.out.size)
  clear hb4 C4 B3 R3 RA3
  go_wp2_with fail
  go_loopw [10] (fun z wr => ∃ k : Nat, k ≤ N ∧ k ≤ 100 ∧ z = .int .i64 k ∧ Hid (Below w.heap.size w wr)) (fun z _ => 100 - (intOf z).toNat)
  case atStart => exact ⟨0, Nat.zero_le _, by omega, rfl, B4⟩
  case round =>
    obtain ⟨k, hk, hk2, rfl, HW⟩ := hrel
    clear B4
    by_cases hlt : k < N
    · by_cases hlt2 : k < 100
      · have hka : k < A.length := by rw [HN.out]; exact hlt
        obtain ⟨t, e, hmem⟩ : ∃ t, A[k]? = some t ∧ t ∈ A := ⟨A[k], by simp [hka], List.getElem_mem hka⟩
        have hra := (HR.out.below (Nat.le_refl _) HW.out)
        obtain ⟨b, o, hab, a0, a1', a2⟩ := hra k t e
        have htx := HT.out t hmem
        have CT := hide (fun w => text_any t.kd t.tx t.pl w htx)
        have CR := hide (fun w => refText_any t.kd t.tx t.pl w htx)
        obtain ⟨x, ee, hx⟩ := textV_shape (textF t.kd t.tx.data.toList)
        rw [hx] at CT CR
        subst hab
        have hbl : b < wr.heap.size := World.block_lt_of_cell? wr _ a0
        clear hx hmem e hra hka
        obtain ⟨kd, tx, pl⟩ := t
        simp only at a0 a1' a2 htx CT CR
        go_wp2_with fail
        refine (CT.out _).mono ?_
        rintro _ w5 ⟨rfl, hb5⟩
        have HW5 : Hid (Below w.heap.size w w5) := HW.out.trans (hb5.mono HW.out.size)
        have d0 := (hb5.cell (p := ⟨b, o + k * 3, none⟩) hbl).trans a0
        have d1 := (hb5.cell (p := ⟨b, o + k * 3 + 1, none⟩) hbl).trans a1'
        have d2 := (hb5.cell (p := ⟨b, o + k * 3 + 2, none⟩) hbl).trans a2
        clear hb5 CT HW a0 a1' a2
        go_wp2_with fail
        refine (CR.out _).mono ?_
        rintro _ w6 ⟨rfl, hb6⟩
        have HW6 : Hid (Below w.heap.size w w6) := HW5.out.trans (hb6.mono HW5.out.size)
        clear hb6 CR HW5 d0 d1 d2
        go_wp2_with fail
        refine (CN.out _ _).mono ?_
        rintro _ w7 ⟨rfl, hw⟩
        subst w7
        go_wp2_with fail
        go_roundw
        case rel => exact ⟨k + 1, by omega, by omega, by go_num, HW6⟩
        case measure => simp [intOf]; omega
      · go_wp2_with fail
        refine (CW.out _).mono ?_
        rintro _ w5 ⟨rfl, hb5⟩
        have HW5 : Hid (Below w.heap.size w w5) := HW.out.trans (hb5.mono HW.out.size)
        clear hb5
        go_wp2_with fail
        go_ret
        exact ⟨rfl, HW5.out⟩
    · go_wp2_with fail
      refine (CW.out _).mono ?_
      rintro _ w5 ⟨rfl, hb5⟩
      have HW5 : Hid (Below w.heap.size w w5) := HW.out.trans (hb5.mono HW.out.size)
      clear hb5
      go_wp2_with fail
      go_ret
      exact ⟨rfl, HW5.out⟩
end Go.Proofs.Ytlllgndbcagkgaa
