/- Sorted of a table. -/
import Derived.Test.YtijpdoclmplclaaSrt1
import Derived.Test.YtijpdoclmplclaaOnce
import Derived.Test.YtijpdoclmplclaaShelfB
namespace Go.Proofs.Ytijpdoclmplclaa
open Go.RowKit Go.Shelf Go.Maps Go.WideMaps Go.Lib Go.Sort

theorem ints_map (xs : List Nat) : (xs.map fun n : Nat => (n : Int)).map (Value.int .i64) = ints xs := by unfold ints; rw [List.map_map]; rfl
theorem cloneI_any {W : World} {v : Value} {n : Nat} {xs : List Nat} (h : W.ownsRow 0 3 1 v n (ints xs)) (hn : n ≤ 4096) :
    Calls Try.prog 43 #[v] W fun e w' => ∃ va vc, e = .returned (.slice va n vc) ∧ w'.ownsRow W.heap.size 3 1 (.slice va n vc) n (ints xs) ∧ Below W.heap.size W w' := by
  have hx : xs.length = n := by have := h.1; rw [ints_length, Nat.mul_one] at this; exact this
  rcases h.2 with ⟨rfl, rfl⟩ | ⟨g, cap, cur, rfl, h3, h4, h5, h6, h7, h8⟩
  · refine (Try.slices_Clone_int_nil 0 0 W).mono ?_
    rintro e w' ⟨rfl, rfl⟩
    exact ⟨none, 0, rfl, ⟨h.1, .inl ⟨rfl, rfl⟩⟩, Below.refl _ _⟩
  · have hz : n ≤ (xs.map fun n : Nat => (n : Int)).length := by simp; omega
    refine (Try.slices_Clone_int g 0 n cap (xs.map fun n : Nat => (n : Int)) W hz (by omega) ?_).mono ?_
    · intro j hj
      simp at hj
      obtain ⟨g', c', e1, hc, -, -⟩ := owns_at h (i := j) (x := .int .i64 (xs.getD j 0 : Nat)) (by unfold ints; rw [List.getElem?_map, List.getElem?_eq_getElem hj]; simp [List.getD, hj])
      simp only [Value.slice.injEq, Option.some.injEq, Addr.mk.injEq] at e1
      obtain ⟨⟨rfl, -⟩, -, -⟩ := e1
      rw [Nat.zero_add, hc]
      simp [List.getD, hj]
    · rintro e w' ⟨v', rfl, hv, -, hb⟩
      rw [List.take_of_length_le (by simp; omega), ints_map] at hv
      obtain ⟨va, vc, rfl⟩ := owns_slice hv
      exact ⟨va, vc, rfl, hv, hb⟩

section
variable {Z : Nat → Prop} {B M : Nat} {nv : Value} {d : Int} {sv : Value} {most : Int} {l : List Bytes} {w : World}

/-- The table when the list by name has been laid. -/
theorem Tab.laid (h : Tab Z B M nv 0 sv most l w) (hz : ∀ g, w.heap.size ≤ g → Z g) {w2 : World} {v : Value} (hb : Below w.heap.size (w.setCell ⟨B, 4, none⟩ (.int .i32 1)) w2) (hv : w2.ownsRow w.heap.size 3 1 v l.length (ints (srt l))) :
    Tab Z B M nv 1 v most l (((w2.setCell ⟨B, 6, none⟩ v).drew.setCell ⟨B, 3, none⟩ (.int .u32 1)).setCell ⟨B, 4, none⟩ (.int .i32 0)) ∧ Fr Z w (((w2.setCell ⟨B, 6, none⟩ v).drew.setCell ⟨B, 3, none⟩ (.int .u32 1)).setCell ⟨B, 4, none⟩ (.int .i32 0)) := by
  have hB := loc_lt h.box
  have b1 := (hb.block B hB).trans (loc_set (i := 4) (v := .int .i32 1) h.box)
  have b2 := loc_set (i := 4) (v := .int .i32 0) (loc_set (i := 3) (v := .int .u32 1) (show (w2.setCell ⟨B, 6, none⟩ v).drew.heap[B]? = _ from loc_set (i := 6) (v := v) b1))
  have o2 : ∀ k, k ≠ B → (((w2.setCell ⟨B, 6, none⟩ v).drew.setCell ⟨B, 3, none⟩ (.int .u32 1)).setCell ⟨B, 4, none⟩ (.int .i32 0)).heap[k]? = w2.heap[k]? := fun k hk => by
    rw [heap_setCell_other _ _ k _ hk, heap_setCell_other _ _ k _ hk]
    exact heap_setCell_other _ _ k _ hk
  have o1 : ∀ k, k ≠ B → k < w.heap.size → w2.heap[k]? = w.heap[k]? := fun k hk hlt => (hb.block k hlt).trans (heap_setCell_other _ _ k _ hk)
  obtain ⟨D, hD, hN⟩ := h.map
  have hMB : M ≠ B := by
    rintro rfl
    obtain ⟨es, ck, hb', _⟩ := hD
    rw [h.box] at hb'
    cases hb'
  have hnB : ∀ g, nv.ownBlock = some g → g ≠ B := by
    rintro g hg rfl
    rcases h.row.2 with ⟨h1, _⟩ | ⟨g', _, cur, h1, _, h3, _⟩
    · rw [h1] at hg; cases hg
    · rw [h1] at hg; cases hg; rw [h.box] at h3; cases h3
  have hvB : ∀ g, v.ownBlock = some g → w.heap.size ≤ g := fun g hg => (hv.lt g hg).1
  refine ⟨⟨b2, owns_keep h.row fun g hg => (o2 g (hnB g hg)).trans (o1 g (hnB g hg) (owns_lt h.row hg)), ⟨D, map_keep hD ((o2 M hMB).trans (o1 M hMB hD.lt)), hN⟩, .inr ⟨rfl, ?_⟩, h.zB, h.zM, h.zn, fun _ g hg => hz g (hvB g hg), h.most1, h.most2, h.len, h.nodup, h.names⟩, ?_⟩
  · have hv0 : w2.ownsRow 0 3 1 v l.length (ints (srt l)) := by
      refine ⟨hv.1, ?_⟩
      rcases hv.2 with e | ⟨g, cap, cur, e1, e2, e3⟩
      · exact .inl e
      · exact .inr ⟨g, cap, cur, e1, Nat.zero_le _, e3⟩
    exact owns_keep hv0 fun g hg => o2 g (by have := hvB g hg; omega)
  · refine ⟨hb.os, hb.tape, hb.output, ?_, fun k hk hn => ?_⟩
    · have := hb.size
      simpa using this
    · have hkB : k ≠ B := fun e => hn (e ▸ h.zB)
      exact (o2 k hkB).trans (o1 k hkB hk)

set_option maxRecDepth 100000 in
set_option maxHeartbeats 3200000 in
theorem sorted_any (h : Tab Z B M nv d sv most l w) (hz : ∀ g, w.heap.size ≤ g → Z g) :
    Calls Try.prog 20 #[ptr B] w fun e w' => ∃ va vc n0 sv', e = .returned (.slice va l.length vc) ∧ w'.ownsRow n0 3 1 (.slice va l.length vc) l.length (ints (srt l)) ∧ (w.heap.size ≤ n0 ∧ n0 ≤ w'.heap.size) ∧
      Tab (fun k => Z k ∧ k < n0) B M nv 1 sv' most l w' ∧ Fr Z w w' := by
  have hB := loc_lt h.box
  have hA : Below w.heap.size w (w.alloc (.cells #[ptr B] 22)) := (Below.refl _ _).alloc (Nat.le_refl _) _
  have hT := h.below hA
  have C := hide (made_any hT)
  have HL := hide h.len2
  have p0 : (w.alloc (.cells #[ptr B] 22)).cell? ⟨w.heap.size, 0, none⟩ = some (ptr B) := by simp
  have hmf : ∀ (fn : Fn) (first cap : Array Value) (w : World), (Instr.makeFunc fn first cap).run Try.prog w = .ok (.func fn first cap) w := fun _ _ _ _ => rfl
  obtain ⟨a0, a1, a2, a3, a4, a5, a6, af⟩ := hT.cells
  rcases h.once with rfl | ⟨rfl, hs⟩
  · have eg : ∀ args w, (callFunc 41 args).run Try.prog w = .ok (.enter 41 args) w := enters_of Try.func41 (by kernel_rfl) rfl
    have hsz : ((w.alloc (.cells #[ptr B] 22)).setCell ⟨B, 4, none⟩ (.int .i32 1)).heap.size = (w.alloc (.cells #[ptr B] 22)).heap.size := by simp
    have hbx := loc_set (i := 4) (v := .int .i32 1) hT.box
    have hne : w.heap.size ≠ B := by omega
    have hnB : ∀ g, nv.ownBlock = some g → g ≠ B := by
      rintro g hg rfl
      rcases h.row.2 with ⟨h1, _⟩ | ⟨g', _, cur, h1, _, h3, _⟩
      · rw [h1] at hg; cases hg
      · rw [h1] at hg; cases hg; rw [h.box] at h3; cases h3
    have hp1 : ((w.alloc (.cells #[ptr B] 22)).setCell ⟨B, 4, none⟩ (.int .i32 1)).cell? ⟨w.heap.size, 0, none⟩ = some (ptr B) := (World.cell?_of_block (heap_setCell_other _ _ _ _ hne)).trans p0
    have hF := srt1_any (B := B) (b := w.heap.size) (owns_keep hT.row fun g hg => heap_setCell_other _ ⟨B, 4, none⟩ g (.int .i32 1) (hnB g hg)) HL.out h.nodup hp1 (cell_of_row _ B 1 _ _ _ hbx) (cell_of_row _ B 6 _ _ _ hbx) (frozen_of_row _ B 6 _ _ hbx) (loc_lt hbx)
    have CD0 := hide (do_first B 3 41 #[.pointer (some ⟨w.heap.size, 0, none⟩)] _ (w.alloc (.cells #[ptr B] 22)) eg a3 a4 (af 4) hF (by
      rintro w2' ⟨w2, v, hb2, hv2, rfl⟩
      have b1 := (hb2.block B (loc_lt hbx)).trans hbx
      have b2 := loc_set (i := 6) (v := v) b1
      exact ⟨cell_of_row _ B 3 _ _ _ b2, cell_of_row _ B 4 _ _ _ b2, frozen_of_row _ B 3 _ _ b2, frozen_of_row _ B 4 _ _ b2⟩))
    have HT := hide hT
    have HZ := hide hz
    have HA := hide hA
    have CD : Hid (Calls Try.prog 40 #[.pointer (some ⟨B, 3, none⟩), .func (.func 41) #[] #[.pointer (some ⟨w.heap.size, 0, none⟩)]] (w.alloc (.cells #[ptr B] 22)) fun e W => e = .returned (.tuple #[]) ∧
        ∃ va vc, Hid (Tab Z B M nv 1 (.slice va l.length vc) most l W) ∧ Hid (Fr Z (w.alloc (.cells #[ptr B] 22)) W) ∧ W.cell? ⟨w.heap.size, 0, none⟩ = some (ptr B) ∧ W.cell? ⟨B, 6, none⟩ = some (.slice va l.length vc)) := by
      refine CD0.out.mono ?_
      rintro e w1 ⟨he, w2', ⟨w2, v, hb2, hv2, rfl⟩, rfl⟩
      rw [hsz] at hb2 hv2
      obtain ⟨hT3, hF3⟩ := HT.out.laid (fun g hg => HZ.out g (by simp at hg; omega)) hb2 hv2
      obtain ⟨va, vc, rfl⟩ := owns_slice hv2
      obtain ⟨-, -, -, -, -, -, q6, -⟩ := hT3.cells
      refine ⟨he, va, vc, hide hT3, hide hF3, ?_, q6⟩
      refine (World.cell?_of_block ?_).trans p0
      rw [heap_setCell_other _ _ _ _ hne, heap_setCell_other _ _ _ _ hne]
      refine (heap_setCell_other _ _ _ _ hne).trans ?_
      rw [hb2.block _ (by simp)]
      exact heap_setCell_other _ _ _ _ hne
    clear hF hp1 h hT a1 a2 a4 a5 a6 hz hA CD0
    go_enter Try.func20, Try.ntmps20
    go_wp2_with (first | (go_at_call 38; refine C.out.mono ?_; rintro _ w1 ⟨rfl, hw1⟩; subst w1) | (go_at_call 40; refine CD.out.mono ?_; rintro _ W ⟨rfl, va, vc, HT3, HF3, q0, q6⟩))
    have CC := hide (cloneI_any (HT3.out.once.resolve_left (by decide)).2 HL.out)
    refine CC.out.mono ?_
    rintro _ w5 ⟨ra, rc, rfl, hr5, hb5⟩
    have HR5 := hide hr5
    have HB5 := hide hb5
    clear hr5 hb5
    go_wp2_with fail
    go_ret
    exact ⟨ra, rc, W.heap.size, _, rfl, HR5.out, ⟨Nat.le_trans HA.out.size HF3.out.size, HB5.out.size⟩, (HT3.out.mono fun k hk hz => ⟨hz, hk⟩).below HB5.out, ((Fr.of_below HA.out).trans HF3.out).trans (.of_below HB5.out)⟩
  · obtain ⟨sa, sc, rfl⟩ := owns_slice hs
    have CD := hide (do_done ⟨B, 3, none⟩ 1 (by decide) (.func (.func 41) #[] #[.pointer (some ⟨w.heap.size, 0, none⟩)]) _ a3)
    have CC := hide (cloneI_any (hT.once.resolve_left (by decide)).2 HL.out)
    have HT := hide hT
    have HA := hide hA
    clear h hT hs hA hz
    go_enter Try.func20, Try.ntmps20
    go_wp2_with (first | (go_at_call 38; refine C.out.mono ?_; rintro _ w1 ⟨rfl, hw1⟩; subst w1) | (go_at_call 40; refine CD.out.mono ?_; rintro _ w1 ⟨rfl, hw1⟩; subst w1) | (go_at_call 43; refine CC.out.mono ?_; rintro _ w1 ⟨ra, rc, rfl, hr1, hb1⟩))
    have HR5 := hide hr1
    have HB5 := hide hb1
    clear hr1 hb1
    go_wp2_with fail
    go_ret
    exact ⟨ra, rc, _, _, rfl, HR5.out, ⟨HA.out.size, HB5.out.size⟩, (HT.out.mono fun k hk hz => ⟨hz, hk⟩).below HB5.out, (Fr.of_below HA.out).trans (.of_below HB5.out)⟩
end
end Go.Proofs.Ytijpdoclmplclaa
