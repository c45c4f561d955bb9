/- Join: the document's. -/
import Derived.Test.YtlllgndbcagkgaaJoinPlain
import Derived.Test.YtlllgndbcagkgaaRefText
namespace Go.Proofs.Ytlllgndbcagkgaa
open Go.RowKit

theorem size_list (x : ByteArray) : x.data.toList.length = x.size := by simp

set_option maxRecDepth 100000 in
set_option maxHeartbeats 6400000 in
theorem refJoin_any (a : Option Addr) (c : Nat) (A : List ATok) (w : World) (hr : RowA w a A) (hl : A.length ≤ 4398046511104) (ht : ∀ t ∈ A, t.tx.size ≤ 140737488351232) :
    Calls Try.prog 19 #[.slice a A.length c] w fun r w' => r = .returned (joinV A) ∧ Below w.heap.size w w' := by
  have HR := hide hr
  have HT := hide ht
  clear hr ht
  go_enter Try.func19, Try.ntmps19
  go_wp2_with fail
  go_loopw [5, 6] (fun x z wr => ∃ (k : Nat) (o : ByteArray), k ≤ A.length ∧ z = .int .i64 k ∧ x = .string o ∧ o.size ≤ 131074 ∧ Hid (∀ j t, j < k → A[j]? = some t → t.text.isSome = true) ∧ Hid (sizeA A k ≤ 65536 → o.data.toList = joinL (textsA A k)) ∧ Hid (65536 < sizeA A k → 65536 < o.size) ∧ Hid (Below w.heap.size w wr)) (fun _ z _ => A.length - (intOf z).toNat)
  case atStart => exact ⟨0, ⟨#[]⟩, Nat.zero_le _, rfl, rfl, by decide, fun j t hj => by omega, fun _ => rfl, fun h => by simp [sizeA, textsA, joinL] at h, Below.refl _ _⟩
  case round =>
    obtain ⟨k, O, hk, rfl, rfl, hO, HK, HS, HL, HW⟩ := hrel
    by_cases hlt : k < A.length
    · obtain ⟨t, e, hmem⟩ : ∃ t, A[k]? = some t ∧ t ∈ A := ⟨A[k], by simp [hlt], List.getElem_mem hlt⟩
      obtain ⟨b, o, rfl, a0, a1, a2⟩ := (HR.out.below (Nat.le_refl _) HW.out) k t e
      have htx := HT.out t hmem
      have CT := hide (fun w => refText_any t.kd t.tx t.pl w htx)
      have HTF : Hid (textF t.kd t.tx.data.toList = t.text) := rfl
      rw [HTF.out] at CT
      have HBad := hide (fun (hn : t.text = none) => joinV_bad A k t e hn HK.out)
      have HGood := hide (fun s (hs : t.text = some s) => joinA_succ A k t s e hs)
      have HLe := hide (fun s (hs : t.text = some s) => text_le hs)
      have HK2 : Hid (t.text.isSome = true → ∀ j t', j < k + 1 → A[j]? = some t' → t'.text.isSome = true) := fun h j t' hj he => by
        by_cases ej : j = k
        · subst ej; rw [e] at he; simp only [Option.some.injEq] at he; subst he; exact h
        · exact HK.out j t' (by omega) he
      clear hmem HTF
      generalize t.text = tt at *
      obtain ⟨kd, tx, pl⟩ := t
      simp only at a0 a1 a2 htx CT
      cases htt : tt with
      | none =>
        have HJ := hide (HBad.out htt)
        rw [htt] at CT
        clear HBad HGood HLe HK2 htt HS
        simp only [textV] at CT
        go_wp2_with fail
        refine (CT.out _).mono ?_
        rintro _ w2 ⟨rfl, hb2⟩
        have HW2 : Hid (Below w.heap.size w w2) := HW.out.trans (hb2.mono HW.out.size)
        clear hb2 CT
        go_wp2_with fail
        go_ret3
        rw [HJ.out]
        exact ⟨rfl, HW2.out⟩
      | some s =>
        have HG := hide (HGood.out s htt)
        have hN := HLe.out s htt
        have HK3 := hide (HK2.out (by rw [htt]; rfl))
        rw [htt] at CT
        clear HBad HGood HLe HK2 htt
        simp only [textV, strV] at CT
        obtain ⟨sB, hsB⟩ : ∃ g : ByteArray, ⟨s.toArray⟩ = g := ⟨_, rfl⟩
        have hsl : sB.data.toList = s := by rw [← hsB]
        have hss : sB.size = s.length := by rw [← hsB]; show s.toArray.size = _; simp
        rw [hsB] at CT
        have HSB := hide hsl
        have hsN : sB.size ≤ 65536 := by omega
        have HSS := hide hss
        clear hsB hsl hss hN
        have HSize : Hid (sizeA A (k + 1) = sizeA A k + ((gapL k).length + s.length)) := by
          show sizeA A (k + 1) = _
          unfold sizeA
          rw [HG.out]; simp only [List.length_append]
        have HOl := hide (show O.data.toList.length = O.size by simp)
        by_cases hle : O.size ≤ 65536
        · have hsk : sizeA A k ≤ 65536 := by
            rcases Nat.lt_or_ge 65536 (sizeA A k) with h | h
            · have := HL.out h; omega
            · exact h
          have HOe := hide (HS.out hsk)
          have HOs : Hid (O.size = sizeA A k) := by
            unfold Hid sizeA
            rw [← HOe.out, HOl.out]
          clear HS HL
          by_cases hk0 : k = 0
          · have HE : Hid ((O ++ sB : ByteArray).data.toList = joinL (textsA A (k + 1))) := by
              unfold Hid
              rw [HG.out, ← HOe.out]
              simp [gapL, HSB.out, hk0]
            have hOs : (O ++ sB : ByteArray).size = O.size + sB.size := ByteArray.size_append
            have HZ : Hid ((O ++ sB : ByteArray).size = sizeA A (k + 1)) := by
              unfold Hid sizeA
              rw [← HE.out, size_list]
            have hk0' : ¬ 0 < (k : Int) := by omega
            clear hk0
            go_wp2_with fail
            refine (CT.out _).mono ?_
            rintro _ w2 ⟨rfl, hb2⟩
            have HW2 : Hid (Below w.heap.size w w2) := HW.out.trans (hb2.mono HW.out.size)
            clear hb2 CT
            go_wp2_with fail
            go_roundw
            case rel => exact ⟨k + 1, O ++ sB, by omega, by go_num, rfl, by omega, HK3, fun _ => HE.out, fun h => by rw [HZ.out]; exact h, HW2⟩
            case measure => simp [intOf]; omega
          · have HE : Hid ((O ++ ⟨#[32]⟩ ++ sB : ByteArray).data.toList = joinL (textsA A (k + 1))) := by
              unfold Hid
              rw [HG.out, ← HOe.out]
              simp [gapL, HSB.out, hk0]
            have hOs : (O ++ ⟨#[32]⟩ ++ sB : ByteArray).size = O.size + 1 + sB.size := by rw [ByteArray.size_append, ByteArray.size_append]; rfl
            have HZ : Hid ((O ++ ⟨#[32]⟩ ++ sB : ByteArray).size = sizeA A (k + 1)) := by
              unfold Hid sizeA
              rw [← HE.out, size_list]
            have hk0' : 0 < (k : Int) := by omega
            go_wp2_with fail
            refine (CT.out _).mono ?_
            rintro _ w2 ⟨rfl, hb2⟩
            have HW2 : Hid (Below w.heap.size w w2) := HW.out.trans (hb2.mono HW.out.size)
            clear hb2 CT
            go_wp2_with fail
            go_roundw
            case rel => exact ⟨k + 1, O ++ ⟨#[32]⟩ ++ sB, by omega, by go_num, rfl, by omega, HK3, fun _ => HE.out, fun h => by rw [HZ.out]; exact h, HW2⟩
            case measure => simp [intOf]; omega
        · have hsk : 65536 < sizeA A (k + 1) := by
            rcases Nat.lt_or_ge 65536 (sizeA A k) with h | h
            · rw [HSize.out]; omega
            · have h1 := HS.out h
              have h2 := HOl.out
              rw [h1] at h2
              unfold sizeA at h
              omega
          go_wp2_with fail
          refine (CT.out _).mono ?_
          rintro _ w2 ⟨rfl, hb2⟩
          have HW2 : Hid (Below w.heap.size w w2) := HW.out.trans (hb2.mono HW.out.size)
          have HSK := hide hsk
          clear hb2 CT hsk
          go_wp2_with fail
          go_roundw
          case rel => exact ⟨k + 1, O, by omega, by go_num, rfl, by omega, HK3, fun h => by have := HSK.out; omega, fun _ => by omega, HW2⟩
          case measure => simp [intOf]; omega
    · have ek : k = A.length := by omega
      subst ek
      have HJ := hide (joinV_ok A HK.out)
      have HOl := hide (show O.data.toList.length = O.size by simp)
      by_cases hle : 65536 < sizeA A A.length
      · rw [if_pos hle] at HJ
        have h2 := HL.out hle
        clear hle HS HL
        go_wp2_with fail
        go_ret3
        rw [HJ.out]
        exact ⟨rfl, HW.out⟩
      · rw [if_neg hle] at HJ
        have h1 := HS.out (by omega)
        rw [← h1, strV_data] at HJ
        have h2 : ¬ 65536 < O.size := by
          have := HOl.out
          rw [h1] at this
          unfold sizeA at hle
          omega
        clear hle HS HL h1
        go_wp2_with fail
        go_ret3
        rw [HJ.out]
        exact ⟨rfl, HW.out⟩
end Go.Proofs.Ytlllgndbcagkgaa
