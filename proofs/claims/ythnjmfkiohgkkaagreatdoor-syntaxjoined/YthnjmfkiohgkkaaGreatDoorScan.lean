/- The scan of a text. -/
import Derived.Test.YthnjmfkiohgkkaaGreatDoorRunes
namespace Go.Proofs.YthnjmfkiohgkkaaGreatDoor
open Go.RowKit

section
variable {B : Nat} {T : ByteArray} {S : St} {w : World}

theorem Sc.iter (h : Sc B T S w) (pos : Nat) : Sc B T S (w.iterAt (B + 1) T pos) := by
  obtain ⟨hs, tv, rv, hb, h1, h2⟩ := h
  have ow : ∀ {e k n : Nat} {v : Value} {xs : List Value}, w.ownsRow (B + 2) e k v n xs → (w.iterAt (B + 1) T pos).ownsRow (B + 2) e k v n xs := fun {e k n v xs} ho => by
    refine ⟨ho.1, ?_⟩
    rcases ho.2 with h3 | ⟨g, cap, cur, h4, h5, h6, h7⟩
    · exact .inl h3
    · exact .inr ⟨g, cap, cur, h4, h5, (Lib.iterAt_other w (B + 1) g T pos (by omega)).trans h6, h7⟩
  exact ⟨by rw [Lib.iterAt_size]; exact hs, tv, rv, (Lib.iterAt_other w (B + 1) B T pos (by omega)).trans hb, ow h1, ow h2⟩
end

/-- A scanner that has begun. -/
def St0 : St := ⟨66, 0, [], [], 0, 0⟩

set_option maxRecDepth 100000 in
set_option maxHeartbeats 1600000 in
theorem scan_long (s : ByteArray) (w : World) (hs : 65536 < s.size) :
    Calls Tryz.prog 45 #[.string s] w fun r w' => r = .returned (.pointer (some ⟨w.heap.size, 0, none⟩)) ∧ Below w.heap.size w w' ∧ w'.cell? ⟨w.heap.size, 5, none⟩ = some (.int .i64 5) ∧ w'.cell? ⟨w.heap.size, 6, none⟩ = some (.int .i64 0) := by
  go_enter Tryz.func45, Tryz.ntmps45
  go_wp2_with fail
  go_ret
  refine ⟨rfl, (Below.refl _ _).alloc (Nat.le_refl _) _, ?_, ?_⟩
  · rw [cell_of_row _ w.heap.size 5 _ 116 (0, 0) (heap_alloc_new w _)]; rfl
  · rw [cell_of_row _ w.heap.size 6 _ 116 (0, 0) (heap_alloc_new w _)]; rfl

/-- What the scan's end says. -/
def Ends (s : List UInt8) (S : St) : Prop :=
  (lexR s).err = 0 ∧ S.err = 0 ∧ S.tk = (lexR s).tk ∧ S.rm = (lexR s).rm ∨ (lexR s).err ≠ 0 ∧ S.err = (lexR s).err ∧ S.place = (lexR s).place

theorem ends_err {s : List UInt8} {S : St} {e : Nat} (he : e ≠ 0) (h1 : S.err = (e : Int)) (h2 : W (s ++ [10]) 0 [] [] = ⟨[], [], e, S.place⟩) : Ends s S := by
  rcases lexR_cases s with ⟨h3, _, _, h4⟩ | ⟨h3, _, h4⟩
  · rw [h4] at h2
    refine .inr ⟨h3, ?_, ?_⟩ <;> rw [h2]
    exact h1
  · rw [h4] at h2
    simp only [Res.mk.injEq] at h2
    omega

theorem ends_ok {s : List UInt8} {S : St} (h1 : S.err = 0) (h2 : W (s ++ [10]) 0 [] [] = ⟨S.tk, S.rm, 0, s.length + 1⟩) : Ends s S := by
  rcases lexR_cases s with ⟨h3, _, _, h4⟩ | ⟨h3, _, h4⟩
  · rw [h4] at h2
    rw [h2] at h3
    simp at h3
  · rw [h4] at h2
    simp only [Res.mk.injEq, and_true] at h2
    exact .inl ⟨h3, h1, h2.1.symm, h2.2.symm⟩

theorem below_fr {B : Nat} {w a b : World} (h : Below B w a) (hf : Fr B a b) : Below B w b :=
  h.trans ⟨hf.os, hf.tape, hf.output, hf.size, fun k hk => hf.block k (by omega) (by omega)⟩

theorem inv_fn {L : List UInt8} {R : Res} {S : St} {i : Nat} (h : Inv L R S i) : S.fn = 66 ∨ S.fn = 111 ∨ S.fn = 112 ∨ S.fn = 113 ∨ S.fn = 146 ∨ S.fn = 115 ∨ S.fn = 116 ∨ S.fn = 117 ∨ S.fn = 118 := by
  obtain ⟨_, _, ⟨hf, _⟩ | ⟨_, _, _, _, hk⟩⟩ := h
  · exact .inl hf
  · rcases hk with ⟨hf, _⟩ | ⟨hf, _⟩ | ⟨hf, _⟩ | ⟨hf, _⟩ | ⟨hf, _⟩ | ⟨hf, _⟩ | ⟨hf, _⟩ | ⟨hf, _⟩ <;> simp [hf]

set_option maxRecDepth 100000 in
set_option maxHeartbeats 8000000 in
theorem scan_at (s : ByteArray) (w : World) (hs : s.size ≤ 65536) (B : Nat) (hB : w.heap.size = B) :
    Calls Tryz.prog 45 #[.string s] w fun r w' => r = .returned (.pointer (some ⟨B, 0, none⟩)) ∧ Below B w w' ∧
      ∃ S T, Sc B T S w' ∧ Ends s.data.toList S := by
  have HB := hide hB
  clear hB
  have hTl : (s ++ ⟨#[10]⟩ : ByteArray).data.toList = s.data.toList ++ [10] := by simp
  have hTs : (s ++ ⟨#[10]⟩ : ByteArray).size = s.size + 1 := by rw [ByteArray.size_append]; rfl
  go_enter Tryz.func45, Tryz.ntmps45
  go_wp2_with fail
  have hSc : Sc w.heap.size (s ++ ⟨#[10]⟩) St0 ((w.alloc (.cells (cellsOf w.heap.size (s ++ ⟨#[10]⟩) St0 (.slice none 0 0) (.slice none 0 0)) 116)).iter (s ++ ⟨#[10]⟩) 0) := by
    refine ⟨by simp [World.iter], .slice none 0 0, .slice none 0 0, ?_, ⟨rfl, .inl ⟨rfl, rfl⟩⟩, ⟨rfl, .inl ⟨rfl, rfl⟩⟩⟩
    exact (Go.heap_alloc_old _ _ (by simp)).trans (heap_alloc_new w _)
  have hIt : ((w.alloc (.cells (cellsOf w.heap.size (s ++ ⟨#[10]⟩) St0 (.slice none 0 0) (.slice none 0 0)) 116)).iter (s ++ ⟨#[10]⟩) 0).heap[w.heap.size + 1]? = some (.stringIter (s ++ ⟨#[10]⟩) 0) := by
    have := World.iter_heap (w.alloc (.cells (cellsOf w.heap.size (s ++ ⟨#[10]⟩) St0 (.slice none 0 0) (.slice none 0 0)) 116)) (s ++ ⟨#[10]⟩) 0
    simpa using this
  have hBl : Below w.heap.size w ((w.alloc (.cells (cellsOf w.heap.size (s ++ ⟨#[10]⟩) St0 (.slice none 0 0) (.slice none 0 0)) 116)).iter (s ++ ⟨#[10]⟩) 0) :=
    ((Below.refl _ _).alloc (Nat.le_refl _) _).trans ((below_iter _ _ _).mono (by simp))
  have hIv : Inv (s ++ ⟨#[10]⟩ : ByteArray).data.toList (W (s.data.toList ++ [10]) 0 [] []) St0 0 := ⟨rfl, Nat.zero_le _, .inl ⟨rfl, Nat.zero_le _, Nat.zero_le _, by rw [List.drop_zero, hTl]; rfl⟩⟩
  have HSc := hide hSc
  have HIt := hide hIt
  have HBl := hide hBl
  have HIv := hide hIv
  simp only [cellsOf, St0] at HSc HIt HBl
  clear hSc hIt hBl hIv
  generalize s ++ ⟨#[10]⟩ = T at *
  rw [HB.out] at HSc HIt HBl ⊢
  have HTl := hide hTl
  have hT6 : T.size ≤ 1000000 := by omega
  clear hTl
  go_loopw [4] (fun _ wr => ∃ S pos, Hid (Sc B T S wr) ∧ Hid (wr.heap[B + 1]? = some (.stringIter T pos)) ∧ Hid (Inv T.data.toList (W (s.data.toList ++ [10]) 0 [] []) S pos) ∧ Hid (Below B w wr)) (fun _ w' => T.size - w'.iterPos (B + 1))
  case atStart => exact ⟨_, 0, HSc, HIt, HIv, HBl⟩
  case round =>
    obtain ⟨S, pos, HS, HI, HV, HW⟩ := hrel
    have hlen : T.data.toList.length = T.size := by simp
    have hpl : pos ≤ T.size := by have := HV.out.2.1; omega
    clear HSc HIt HIv HBl
    by_cases hp : pos < T.size
    · have hnx : ∀ ty, (Instr.next (.pointer (some ⟨B + 1, 0, none⟩)) true ty).run Tryz.prog wr = _ := fun ty => Lib.run_next_any_at wr (B + 1) T pos ty HI.out hp
      have HR := hide (rune_of T pos hp)
      obtain ⟨⟨cc, wd⟩, hq⟩ : ∃ q, Utf8.decode T pos = q := ⟨_, rfl⟩
      rw [hq] at hnx HR
      simp only at hnx HR
      have H1 := hide (HS.out.iter (pos + wd))
      have I1 := hide (Lib.iterAt_heap wr (B + 1) T pos (pos + wd) HI.out)
      have B1 := hide (Lib.below_iterAt HW.out (show B ≤ B + 1 by omega) T (pos + wd))
      have c1 := H1.out.fnc
      have CC := hide (step_call B s.data.toList T HTl.out _ S pos wd cc _ H1.out HR.out HV.out hT6)
      have GG := hide (step_good HR.out HV.out)
      have hpos := HR.out.pos
      have hple := HR.out.le
      have hfn := inv_fn HV.out
      obtain ⟨S', hS'⟩ : ∃ S', stepS T.data.toList S pos (cc : Int) = S' := ⟨_, rfl⟩
      rw [hS'] at CC GG
      clear hS' hq
      rcases hfn with hf | hf | hf | hf | hf | hf | hf | hf | hf
      all_goals
        rw [hf] at c1 CC
        clear hf
        go_wp2_with fail
        refine CC.out.mono ?_
        rintro _ w2 ⟨rfl, h1, h2⟩
        have c5 := h1.errc
        have HS2 := hide h1
        have HB2 := hide (below_fr B1.out h2)
        have HI2 := hide ((h2.block (B + 1) (by omega) (by omega)).trans I1.out)
        clear h1 h2 c1 CC
        rcases GG.out with ⟨e, he0, he, hR⟩ | hinv
        · have HE := hide (ends_err he0 he hR)
          have hne : (e : Int) ≠ 0 := by omega
          rw [he] at c5
          clear he he0 hR GG
          go_wp2_with fail
          go_ret
          exact ⟨rfl, HB2.out, S', T, HS2.out, HE.out⟩
        · rw [hinv.1] at c5
          have HN := hide hinv
          clear hinv GG
          go_wp2_with fail
          go_roundw
          case rel => exact ⟨S', pos + wd, HS2, HI2, HN, HB2⟩
          case measure =>
            have e1 : wr.iterPos (B + 1) = pos := by simp [World.iterPos, HI.out]
            have e2 : w2.iterPos (B + 1) = pos + wd := by simp [World.iterPos, HI2.out]
            rw [e1, e2]; omega
    · have hnx : ∀ ty, (Instr.next (.pointer (some ⟨B + 1, 0, none⟩)) true ty).run Tryz.prog wr = _ := fun ty => Lib.run_next_end_at wr (B + 1) T pos ty HI.out hp
      have HV2 := HV
      rw [HTl.out] at HV2
      have HE := hide (ends_ok HV.out.1 (inv_end HV2.out (by have := congrArg List.length HTl.out; simp at this; simp; omega)))
      go_wp2_with fail
      go_ret
      exact ⟨rfl, HW.out, S, T, HS.out, HE.out⟩

theorem scan_ok (s : ByteArray) (w : World) (hs : s.size ≤ 65536) :
    Calls Tryz.prog 45 #[.string s] w fun r w' => r = .returned (.pointer (some ⟨w.heap.size, 0, none⟩)) ∧ Below w.heap.size w w' ∧
      ∃ S T, Sc w.heap.size T S w' ∧ Ends s.data.toList S := scan_at s w hs _ rfl
end Go.Proofs.YthnjmfkiohgkkaaGreatDoor
