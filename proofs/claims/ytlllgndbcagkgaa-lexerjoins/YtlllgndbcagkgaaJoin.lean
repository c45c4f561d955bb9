/- Join: the program's. -/
import Derived.Test.YtlllgndbcagkgaaJoinPlain
namespace Go.Proofs.Ytlllgndbcagkgaa
open Go.RowKit

theorem byteCells_app (a b : List UInt8) : Lib.byteCells (a ++ b) = Lib.byteCells a ++ Lib.byteCells b := by simp [Lib.byteCells]
theorem strCells_list (l : List UInt8) : Lib.strCells ⟨l.toArray⟩ = Lib.byteCells l := by simp [Lib.strCells, Lib.byteCells]
theorem byteCells_len (l : List UInt8) : (Lib.byteCells l).length = l.length := by simp [Lib.byteCells]

set_option maxRecDepth 100000 in
set_option maxHeartbeats 6400000 in
theorem join_any (a : Option Addr) (c : Nat) (A : List ATok) (w : World) (B : Nat) (hB : w.heap.size = B) (hr : RowA w a A) (hl : A.length ≤ 4398046511104) (ht : ∀ t ∈ A, t.tx.size ≤ 140737488351232) :
    Calls Try.prog 18 #[.slice a A.length c] w fun r w' => r = .returned (joinV A) ∧ Below B w w' := by
  have HR := hide hr
  have HT := hide ht
  have HB := hide hB
  have hbd : Lib.IsBuilder 67 5 w.heap.size w.heap.size [] (w.alloc (.cells #[.pointer none, .slice none 0 0] 67)) := .inl ⟨Nat.le_refl _, .slice none 0 0, heap_alloc_new w _, ⟨rfl, .inl ⟨rfl, rfl⟩⟩, by simp [Value.ownBlock]⟩
  have HBd := hide hbd
  have HBl : Hid (Below B w (w.alloc (.cells #[.pointer none, .slice none 0 0] 67))) := (Below.refl _ _).alloc (by rw [← hB]; exact Nat.le_refl _) _
  clear hr ht hbd hB
  go_enter Try.func18, Try.ntmps18
  go_wp2_with fail
  rw [HB.out] at HBd ⊢
  have HSz : Hid (B + 1 ≤ (w.alloc (.cells #[.pointer none, .slice none 0 0] 67)).heap.size) := by unfold Hid; simp [HB.out]
  go_loopw [6, 7, 14] (fun x g z wr => ∃ (k : Nat) (bs : List Value), k ≤ A.length ∧ z = .int .i64 k ∧ x = .int .i64 (sizeA A k) ∧ g = .string ⟨(gapL k).toArray⟩ ∧ Hid (∀ j t, j < k → A[j]? = some t → t.text.isSome = true) ∧ Hid (Lib.IsBuilder 67 5 B B bs wr) ∧ Hid (sizeA A k ≤ 65536 → bs = Lib.byteCells (joinL (textsA A k))) ∧ Hid (Below B w wr) ∧ Hid (B + 1 ≤ wr.heap.size)) (fun _ _ z _ => A.length - (intOf z).toNat)
  case atStart => exact ⟨0, [], Nat.zero_le _, rfl, rfl, rfl, fun j t hj => by omega, HBd, fun _ => rfl, HBl, HSz⟩
  case round =>
    obtain ⟨k, bs, hk, rfl, rfl, rfl, HK, HI, HS, HW, HZ⟩ := hrel
    clear HBd HBl HSz
    by_cases hlt : k < A.length
    · obtain ⟨t, e, hmem⟩ : ∃ t, A[k]? = some t ∧ t ∈ A := ⟨A[k], by simp [hlt], List.getElem_mem hlt⟩
      obtain ⟨b, o, rfl, a0, a1, a2⟩ := (HR.out.below (by rw [HB.out]; exact Nat.le_refl _) HW.out) k t e
      have htx := HT.out t hmem
      have hsz := sizeA_le A k hk HK.out
      have CT := hide (fun w => text_any t.kd t.tx t.pl w htx)
      have HTF : Hid (textF t.kd t.tx.data.toList = t.text) := rfl
      rw [HTF.out] at CT
      have hbl : b < wr.heap.size := World.block_lt_of_cell? wr _ a0
      have HBad := hide (fun (hn : t.text = none) => joinV_bad A k t e hn HK.out)
      have HGood := hide (fun s (hs : t.text = some s) => joinA_succ A k t s e hs)
      have HLe := hide (fun s (hs : t.text = some s) => text_le hs)
      have HK2 : Hid (t.text.isSome = true → ∀ j t', j < k + 1 → A[j]? = some t' → t'.text.isSome = true) := fun h j t' hj he => by
        by_cases ej : j = k
        · subst ej; rw [e] at he; simp only [Option.some.injEq] at he; subst he; exact h
        · exact HK.out j t' (by omega) he
      clear hmem HTF
      generalize t.text = tt at *
      obtain ⟨kd, tx, pl⟩ := t
      simp only at a0 a1 a2 htx CT
      obtain ⟨SZ, hSZ⟩ : ∃ z, sizeA A k = z := ⟨_, rfl⟩
      rw [hSZ] at hsz HS ⊢
      have hAl : Below wr.heap.size wr (wr.alloc (.cells #[.int .i64 kd, .string tx, .int .i64 pl] 47)) := (Below.refl _ _).alloc (Nat.le_refl _) _
      have HAl := hide hAl
      have HAs : Hid (wr.heap.size ≤ (wr.alloc (.cells #[.int .i64 kd, .string tx, .int .i64 pl] 47)).heap.size) := hAl.size
      clear hAl
      cases htt : tt with
      | none =>
        have HJ := hide (HBad.out htt)
        rw [htt] at CT
        clear HBad HGood HLe HK2 htt HS
        simp only [textV] at CT
        go_wp2_with fail
        refine (CT.out _).mono ?_
        rintro _ w2 ⟨rfl, hb2⟩
        have HW2 : Hid (Below B w w2) := HW.out.trans ((HAl.out.mono (by have := HZ.out; omega)).trans (hb2.mono (by have := HZ.out; have := HAs.out; omega)))
        clear hb2 CT
        go_wp2_with fail
        go_ret3
        rw [HJ.out]
        exact ⟨rfl, HW2.out⟩
      | some s =>
        have HG := hide (HGood.out s htt)
        have hN := HLe.out s htt
        have HK3 := hide (HK2.out (by rw [htt]; rfl))
        rw [htt] at CT
        clear HBad HGood HLe HK2 htt
        simp only [textV, strV] at CT
        obtain ⟨gB, hgB⟩ : ∃ g : ByteArray, ⟨(gapL k).toArray⟩ = g := ⟨_, rfl⟩
        obtain ⟨sB, hsB⟩ : ∃ g : ByteArray, ⟨s.toArray⟩ = g := ⟨_, rfl⟩
        have hgs : gB.size = (gapL k).length := by rw [← hgB]; show (gapL k).toArray.size = _; simp
        have hss : sB.size = s.length := by rw [← hsB]; show s.toArray.size = _; simp
        have hG : (gapL k).length ≤ 1 := by unfold gapL; split <;> simp
        have HSz2 : Hid (sizeA A (k + 1) = SZ + ((gapL k).length + s.length)) := by
          have h1 := hSZ
          show sizeA A (k + 1) = _
          unfold sizeA at h1 ⊢
          rw [HG.out]; simp only [List.length_append]; omega
        have HCg : Hid (Lib.strCells gB = Lib.byteCells (gapL k)) := by rw [← hgB]; exact strCells_list _
        have HCs : Hid (Lib.strCells sB = Lib.byteCells s) := by rw [← hsB]; exact strCells_list _
        have HSL : Hid (SZ ≤ 65536 → bs.length = SZ) := fun h => by rw [HS.out h, byteCells_len]; exact hSZ
        rw [hgB]
        rw [hsB] at CT
        have HgB := hide hgB
        clear hgB hsB hSZ
        generalize (gapL k).length = G at *
        generalize s.length = N at *
        go_wp2_with fail
        refine (CT.out _).mono ?_
        rintro _ w2 ⟨rfl, hb2⟩
        have HB2 : Hid (Below wr.heap.size wr w2) := HAl.out.trans (hb2.mono HAs.out)
        have HW2 : Hid (Below B w w2) := HW.out.trans (HB2.out.mono (by have := HZ.out; omega))
        have HI2 := hide (bld_below HI.out HB2.out)
        have HZ2 : Hid (B + 1 ≤ w2.heap.size) := Nat.le_trans HZ.out HB2.out.size
        clear hb2 CT HAl HAs
        by_cases hle : SZ + (G + N) ≤ 65536
        · have hle' : (SZ : Int) + ((G : Int) + (N : Int)) ≤ 65536 := by omega
          have C1 := hide (writeString_any B B bs gB w2 HI2.out (by have := HSL.out (by omega); omega) (by have := HZ2.out; omega))
          go_wp2_with fail
          refine C1.out.mono ?_
          rintro _ w3 ⟨rfl, hi3, hb3⟩
          have C2 := hide (writeString_any B B (bs ++ Lib.strCells gB) sB w3 hi3 (by have := HSL.out (by omega); rw [List.length_append, Lib.strCells_length]; omega) (by have := HZ2.out; have := hb3.size; omega))
          have HW3 : Hid (Below B w w3) := HW2.out.trans hb3
          have HZ3 : Hid (B + 1 ≤ w3.heap.size) := Nat.le_trans HZ2.out hb3.size
          clear hi3 hb3 C1
          go_wp2_with fail
          refine C2.out.mono ?_
          rintro _ w4 ⟨rfl, hi4, hb4⟩
          have HI4 := hide hi4
          have HW4 : Hid (Below B w w4) := HW3.out.trans hb4
          have HZ4 : Hid (B + 1 ≤ w4.heap.size) := Nat.le_trans HZ3.out hb4.size
          have HS4 : Hid (sizeA A (k + 1) ≤ 65536 → bs ++ Lib.strCells gB ++ Lib.strCells sB = Lib.byteCells (joinL (textsA A (k + 1)))) := fun _ => by
            rw [HG.out, HS.out (by omega), HCg.out, HCs.out, byteCells_app, byteCells_app, List.append_assoc]
          clear hi4 hb4 C2
          go_wp2_with fail
          go_roundw
          case rel => exact ⟨k + 1, _, by omega, by go_num, by rw [HSz2.out]; go_num, by simp [gapL], HK3, HI4, HS4, HW4, HZ4⟩
          case measure => simp [intOf]; omega
        · have hle' : ¬ (SZ : Int) + ((G : Int) + (N : Int)) ≤ 65536 := by omega
          go_wp2_with fail
          go_roundw
          case rel => exact ⟨k + 1, bs, by omega, by go_num, by rw [HSz2.out]; go_num, by simp [gapL], HK3, HI2, fun h => by rw [HSz2.out] at h; omega, HW2, HZ2⟩
          case measure => simp [intOf]; omega
    · have ek : k = A.length := by omega
      subst ek
      have HJ := hide (joinV_ok A HK.out)
      obtain ⟨SZ, hSZ⟩ : ∃ z, sizeA A A.length = z := ⟨_, rfl⟩
      rw [hSZ] at HS HJ ⊢
      clear hSZ
      by_cases hle : 65536 < SZ
      · rw [if_pos hle] at HJ
        go_wp2_with fail
        go_ret3
        rw [HJ.out]
        exact ⟨rfl, HW.out⟩
      · rw [if_neg hle] at HJ
        have HI2 := HI
        rw [HS.out (by omega)] at HI2
        have C1 := hide (Try.Builder_String_any B B _ wr HI2.out (by have := HZ.out; omega))
        clear HI HI2 HS
        go_wp2_with fail
        refine C1.out.mono ?_
        rintro _ w3 ⟨rfl, hb3⟩
        have HW3 : Hid (Below B w w3) := HW.out.trans hb3
        clear hb3 C1
        go_wp2_with fail
        go_ret3
        rw [HJ.out]
        exact ⟨rfl, HW3.out⟩
end Go.Proofs.Ytlllgndbcagkgaa
