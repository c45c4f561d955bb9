/- byName, whatever the names. -/
import Derived.Test.YtijpdoclmplclaaByName
namespace Go.Proofs.Ytijpdoclmplclaa
open Go.RowKit Go.Shelf Go.Maps Go.WideMaps Go.Lib Go.Sort

theorem sort_none (p : Option Addr) (c : Nat) (fv : Value) (W : World) : Calls Try.prog 48 #[.slice p 0 c, fv] W fun e w' => e = .returned (.tuple #[]) ∧ w' = W := by
  have hcon := AnyF.slices_SortFunc_none (ρ := Try.sortK_ren) { Try.sortK with } p c fv W
  exact hcon

theorem ints_row {w : World} {g n : Nat} {xs : List Nat} {B : Nat} (h : w.heap[g]? = some (.cells (ints xs).toArray 3 (0, 0))) (hx : xs.length = n) (hB : B ≤ g) (hn : n ≤ maxLen) : w.ownsRow B 3 1 (.slice (some ⟨g, 0, none⟩) n n) n (ints xs) :=
  ⟨by rw [ints_length, hx, Nat.mul_one], .inr ⟨g, n, _, rfl, hB, h, Nat.le_refl _, hn, by simp [ints_length, hx], by rw [Nat.mul_one, List.toList_toArray]; exact List.take_of_length_le (by rw [ints_length]; omega)⟩⟩

set_option maxRecDepth 100000 in
set_option maxHeartbeats 3200000 in
theorem byName_any {l : List Bytes} {nv : Value} {w : World} (h : w.ownsRow 0 9 1 nv l.length (strs l)) (hl : l.length ≤ 4096) (hn : l.Nodup) :
    Calls Try.prog 42 #[nv] w fun e w' => ∃ v, e = .returned v ∧ w'.ownsRow w.heap.size 3 1 v l.length (ints (srt l)) ∧ Below w.heap.size w w' := by
  obtain ⟨ta, tc, rfl⟩ := owns_slice h
  have HROW := hide h
  have HN := hide hn
  obtain ⟨iM, hiM, zM0, zM1, zM2⟩ := info_parts' infoI
  have hmk := run_make (P := Try.prog) (w.alloc (.cells #[.slice ta l.length tc] 39)) 45 3 iM _ Try.underlying45 hiM zM0 .i64 .i64 l.length l.length (by omega) (by omega) (by rw [zM2]; omega) (by omega)
  rw [zM1, Int.toNat_natCast, ipart_zero] at hmk
  have hmf : ∀ (fn : Fn) (first cap : Array Value) (w : World), (Instr.makeFunc fn first cap).run Try.prog w = .ok (.func fn first cap) w := fun _ _ _ _ => rfl
  clear h hn zM0 zM1 zM2 hiM
  go_enter Try.func42, Try.ntmps42
  go_wp2_with fail
  go_loopw [10] (fun x wr => ∃ k : Nat, k ≤ l.length ∧ x = .int .i64 k ∧ Hid (wr.heap[w.heap.size + 1]? = some (.cells (ipart l.length k).toArray 3 (0, 0))) ∧ Hid (wr.heap[w.heap.size]? = some (.cells #[.slice ta l.length tc] 39 (0, 0))) ∧ Hid (Below w.heap.size w wr)) (fun x _ => l.length - (intOf x).toNat)
  case atStart =>
    refine ⟨0, by omega, rfl, hide ?_, hide ?_, hide (((Below.refl _ _).alloc (Nat.le_refl _) _).alloc (by simp) _)⟩
    · have := heap_alloc_new (w.alloc (.cells #[.slice ta l.length tc] 39)) (.cells (ipart l.length 0).toArray 3)
      simpa using this
    · rw [Below.heap_alloc _ _ _ (by simp)]
      exact heap_alloc_new w _
  case round =>
    obtain ⟨k, hk, rfl, HR, HBX, HW⟩ := hrel
    by_cases hlt : k < l.length
    · have k1 : wr.cell? ⟨w.heap.size + 1, k, none⟩ = some (.int .i64 0) := by
        rw [cell_of_row wr _ k _ _ _ HR.out]
        simpa using ipart_at hlt
      have k2 : wr.frozen? ⟨w.heap.size + 1, k, none⟩ = false := frozen_of_row wr _ k _ _ HR.out
      go_wp2_with fail
      go_roundw
      case rel =>
        refine ⟨k + 1, by omega, by go_num, hide ?_, hide ?_, hide (HW.out.setCell (Nat.le_succ _) _)⟩
        · rw [loc_set HR.out, ← ipart_step hlt]
        · rw [heap_setCell_other _ _ _ _ (by simp)]
          exact HBX.out
      case measure => simp [intOf]; omega
    · have hk' : k = l.length := by omega
      subst hk'
      have hR := HR.out
      rw [ipart_all] at hR
      by_cases hp : 0 < l.length
      · obtain ⟨g, c, e1, -, -, -⟩ := owns_at HROW.out (strs_at hp)
        simp only [Value.slice.injEq] at e1
        obtain ⟨rfl, -, rfl⟩ := e1
        have hg : g < w.heap.size := owns_lt HROW.out (g := g) rfl
        have CS := hide (sort_any l w.heap.size (w.heap.size + 1) g tc wr HN.out hp hl (cell_of_row wr _ 0 _ _ _ HBX.out) (fun i hi => by
          obtain ⟨g', c', e1, hc, -, -⟩ := owns_at HROW.out (strs_at hi)
          simp only [Value.slice.injEq, Option.some.injEq, Addr.mk.injEq] at e1
          obtain ⟨⟨rfl, -⟩, -, rfl⟩ := e1
          rw [World.cell?_of_block (HW.out.block _ (by simpa using hg))]
          exact hc) (by omega) (by omega) hR)
        clear hR hk hlt
        go_wp2_with (first | (go_at_call 48; refine CS.out.mono ?_; rintro _ w2 ⟨rfl, hr2, hb2⟩))
        go_ret
        exact ⟨_, rfl, ints_row hr2 (srt_length l) (Nat.le_succ _) (by unfold maxLen; omega), HW.out.trans (hb2.mono (Nat.le_succ _))⟩
      · have h0 : l.length = 0 := by omega
        have hlz : l = [] := List.eq_nil_of_length_eq_zero h0
        have CS := hide (sort_none (some ⟨w.heap.size + 1, 0, none⟩) 0 (.func (.func 49) #[] #[.pointer (some ⟨w.heap.size, 0, none⟩)]) wr)
        subst hlz
        simp only [List.length_nil] at *
        clear hk hlt
        go_wp2_with (first | (go_at_call 48; refine CS.out.mono ?_; rintro _ w2 ⟨rfl, rfl⟩))
        go_ret
        exact ⟨_, rfl, ints_row (xs := srt []) (by simpa [srt] using hR) (srt_length []) (Nat.le_succ _) (by unfold maxLen; omega), HW.out⟩
end Go.Proofs.Ytijpdoclmplclaa
