/- Copy of a table. -/
import Derived.Test.YtijpdoclmplclaaCopy1
import Derived.Deep.RegionHeld3
import Derived.Deep.Cut
import Derived.Deep.CutRange
namespace Go.Proofs.Ytijpdoclmplclaa
open Go.RowKit Go.Shelf Go.Maps Go.WideMaps

theorem own_base {w : World} {base b' e k : Nat} {v : Value} {n : Nat} {xs : List Value} (h : w.ownsRow base e k v n xs) (hb : b' ≤ base) : w.ownsRow b' e k v n xs := by
  refine ⟨h.1, ?_⟩
  rcases h.2 with e | ⟨g, cap, cur, e1, e2, e3⟩
  · exact .inl e
  · exact .inr ⟨g, cap, cur, e1, Nat.le_trans hb e2, e3⟩
/-- The new table, its map still empty. -/
structure Fresh (w : World) (B' M' : Nat) (nv : Value) (most : Int) (l : List Bytes) (W : World) : Prop where
  box : W.heap[B']? = some (.cells #[.int .i64 most, nv, .map (some M'), .int .u32 0, .int .i32 0, .int .u32 0, .slice none 0 0] 70 (0, 0))
  row : W.ownsRow w.heap.size 9 1 nv l.length (strs l)
  map : W.ownsMap (H := Unit) Try.prog 9 (plainElem Try.prog 3) M' 0 (.map [])
  bel : Below w.heap.size w W
  hB : w.heap.size ≤ B'
  hM : w.heap.size ≤ M'

/-- .. laid behind the names. -/
theorem fresh_behind {w w0 w1 : World} {nv : Value} {most : Int} {l : List Bytes} (h0 : Below w.heap.size w w0) (hb : Below w0.heap.size w0 w1) (hr : w1.ownsRow w0.heap.size 9 1 nv l.length (strs l)) :
    Fresh w (w1.heap.size + 1) w1.heap.size nv most l ((w1.alloc (.map #[] 0)).alloc (.cells #[.int .i64 most, nv, .map (some w1.heap.size), .int .u32 0, .int .i32 0, .int .u32 0, .slice none 0 0] 70)) := by
  have h1 : Below w.heap.size w w1 := h0.trans (hb.mono h0.size)
  refine ⟨?_, ((own_base hr h0.size).alloc _).alloc _, (World.ownsMap_made w1 _ _ _).alloc _, (h1.alloc h1.size _).alloc (by have := h1.size; simp; omega) _, by have := h1.size; omega, h1.size⟩
  have := heap_alloc_new (w1.alloc (.map #[] 0)) (.cells #[.int .i64 most, nv, .map (some w1.heap.size), .int .u32 0, .int .i32 0, .int .u32 0, .slice none 0 0] 70)
  simpa using this
/-- .. the map ahead of them. -/
theorem fresh_ahead {w w0 w1 : World} {nv : Value} {most : Int} {l : List Bytes} (hw : w0 = (w.alloc (.map #[] 0)).drew) (hb : Below w0.heap.size w0 w1) (hr : w1.ownsRow w0.heap.size 9 1 nv l.length (strs l)) :
    Fresh w w1.heap.size w.heap.size nv most l (w1.alloc (.cells #[.int .i64 most, nv, .map (some w.heap.size), .int .u32 0, .int .i32 0, .int .u32 0, .slice none 0 0] 70)) := by
  have h0 : Below w.heap.size w w0 := by rw [hw]; exact ((Below.refl _ _).alloc (Nat.le_refl _) _).drew
  have h1 : Below w.heap.size w w1 := h0.trans (hb.mono h0.size)
  have hs : w0.heap.size = w.heap.size + 1 := by rw [hw]; simp
  have hm0 : w0.ownsMap (H := Unit) Try.prog 9 (plainElem Try.prog 3) w.heap.size 0 (.map []) := by rw [hw]; exact (World.ownsMap_made w _ _ _).drew
  have hm : w1.ownsMap (H := Unit) Try.prog 9 (plainElem Try.prog 3) w.heap.size 0 (.map []) := map_keep hm0 (hb.block _ (by omega))
  exact ⟨heap_alloc_new w1 _, (own_base hr h0.size).alloc _, hm.alloc _, h1.alloc h1.size _, h1.size, Nat.le_refl _⟩

section
variable {Z : Nat → Prop} {B M : Nat} {nv : Value} {d : Int} {sv : Value} {most : Int} {l : List Bytes} {w : World}

set_option maxRecDepth 100000 in
set_option maxHeartbeats 6400000 in
theorem copy_any (h : Tab Z B M nv d sv most l w) : Calls Try.prog 25 #[ptr B] w fun e w' => ∃ B' M' nv', e = .returned (ptr B') ∧ Tab (fun k => w.heap.size ≤ k) B' M' nv' 0 (.slice none 0 0) most l w' ∧ Below w.heap.size w w' := by
  have H := hide h
  have C := hide (made_any h)
  have CN : Hid (∀ W : World, Below w.heap.size w W → Calls Try.prog 18 #[ptr B] W fun e w' => ∃ va vc, e = .returned (.slice va l.length vc) ∧ Hid (w'.ownsRow W.heap.size 9 1 (.slice va l.length vc) l.length (strs l)) ∧ Hid (Below W.heap.size W w') ∧
      w'.cell? ⟨B, 0, none⟩ = some (.int .i64 most) ∧ w'.cell? ⟨B, 1, none⟩ = some nv ∧ B < w'.heap.size) := by
    intro W hb
    have hT := H.out.below hb
    refine (names_any hT).mono ?_
    rintro e w' ⟨v, rfl, hr, hb'⟩
    obtain ⟨va, vc, rfl⟩ := owns_slice hr
    obtain ⟨c0, c1, -, -, -, -, -, -⟩ := (hT.below hb').cells
    exact ⟨va, vc, rfl, hide hr, hide hb', c0, c1, loc_lt (hT.below hb').box⟩
  obtain ⟨c0, c1, -, -, -, -, -, -⟩ := h.cells
  have hl := h.len2
  have HB := hide (loc_lt h.box)
  obtain ⟨ta, tc, rfl⟩ := h.form
  have hmk := run_makeMapN l.length
  have hB := HB.out
  have B0 : Hid (Below w.heap.size w w.drew) := (Below.refl _ _).drew
  have B1 : Hid (Below w.heap.size w (w.alloc (.map #[] 0)).drew) := ((Below.refl _ _).alloc (Nat.le_refl _) _).drew
  clear h
  go_enter Try.func25, Try.ntmps25
  go_upto_region 3 with (first | (go_at_call 38; refine C.out.mono ?_; rintro _ w1 ⟨rfl, hw1⟩; subst w1))
  go_cut [3] from 9 to 22 (fun s wc => ∃ B' M' va vc, s = ptr B' ∧ Hid (Fresh w B' M' (.slice va l.length vc) most l wc))
  case first =>
    go_region_with (first | (go_at_call 18; refine (CN.out w.drew B0.out).mono ?_; rintro e w1 ⟨va, vc, rfl, hv, hb, k0, k1, kB⟩) | (go_at_call 18; refine (CN.out (w.alloc (.map #[] 0)).drew B1.out).mono ?_; rintro e w1 ⟨va, vc, rfl, hv, hb, k0, k1, kB⟩))
    all_goals (go_wp2_with fail; go_meet)
    all_goals first | exact ⟨_, _, _, _, rfl, hide (fresh_behind B0.out hb.out hv.out)⟩ | exact ⟨_, _, _, _, rfl, hide (fresh_ahead rfl hb.out hv.out)⟩
  case rest =>
    obtain ⟨B', M', va, vc, rfl, HF⟩ := hcut
    have q1 := cell_of_row wc B' 1 _ _ _ HF.out.box
    have HLT := hide (fun i (hi : i < l.length) => name_short (H.out.names (l.getD i []) (by rw [List.getD_eq_getElem?_getD, List.getElem?_eq_getElem hi]; simp)))
    clear C CN c0 c1 hmk B0 B1 hB HB
    simp at q1
    go_wp2_with fail
    go_loopw [28] (fun x wr => ∃ k : Nat, k ≤ l.length ∧ x = .int .i64 k ∧ Hid (∃ D : DataW Unit, wr.ownsMap Try.prog 9 (plainElem Try.prog 3) M' k D ∧ Num (l.take k) D) ∧ Hid (Below w.heap.size w wr) ∧ Hid (wr.heap[B']? = some (.cells #[.int .i64 most, .slice va l.length vc, .map (some M'), .int .u32 0, .int .i32 0, .int .u32 0, .slice none 0 0] 70 (0, 0))) ∧ Hid (wr.ownsRow w.heap.size 9 1 (.slice va l.length vc) l.length (strs l))) (fun x _ => l.length - (intOf x).toNat)
    case atStart => exact ⟨0, by omega, rfl, hide ⟨_, HF.out.map, num_nil⟩, hide HF.out.bel, hide HF.out.box, hide HF.out.row⟩
    case round =>
      obtain ⟨k, hk, rfl, HMP, HW, HBX, HRW⟩ := hrel
      by_cases hlt : k < l.length
      · obtain ⟨D, hD, hN⟩ := HMP.out
        obtain ⟨g, c, e1, kc, -, -⟩ := owns_at (own_base HRW.out (Nat.zero_le _)) (strs_at hlt)
        simp only [Value.slice.injEq] at e1
        obtain ⟨rfl, -, rfl⟩ := e1
        have HS := hide (HLT.out k hlt)
        have HTK : Hid (l.take (k + 1) = l.take k ++ [l.getD k []]) := by
          show l.take (k + 1) = _
          rw [List.take_add_one, List.getD_eq_getElem?_getD, List.getElem?_eq_getElem hlt]
          rfl
        have HNI : Hid (l.getD k [] ∉ l.take k) := by
          intro hm
          obtain ⟨i, hi, e⟩ := List.getElem_of_mem hm
          rw [List.length_take] at hi
          rw [List.getElem_take, List.getD_eq_getElem?_getD, List.getElem?_eq_getElem hlt] at e
          have := (List.getElem_inj (h₀ := by omega) (h₁ := hlt) H.out.nodup).1 e
          omega
        generalize l.getD k [] = s at kc HS HTK HNI
        unfold str at kc
        have m2 := cell_of_row wr B' 2 _ _ _ HBX.out
        simp at m2
        have HMB : Hid (M' ≠ B') := by
          rintro rfl
          obtain ⟨es, ck, hb', _⟩ := hD
          rw [HBX.out] at hb'
          cases hb'
        have HMG : Hid (g ≠ M') := by
          rintro rfl
          obtain ⟨es, ck, hb', _⟩ := hD
          rcases HRW.out.2 with ⟨h1, _⟩ | ⟨g', _, cur, h1, _, h3, _⟩
          · cases h1
          · cases h1; rw [hb'] at h3; cases h3
        have HD := hide hD
        have HN := hide hN
        have HMZ : Hid (w.heap.size ≤ M') := HF.out.hM
        have HK := hide (keyOf_string_mk (P := Try.prog) Try.underlying9 (s := ⟨s.toArray⟩) (by show s.toArray.size ≤ maxLen; have := HS.out.2; simp only [List.size_toArray]; unfold maxLen; omega))
        clear hD hN HMP
        go_wp2_with (at_mapUpdate; go_must (refine wpList_mapUpdate_own _ rfl _ _ _ 56 rfl 9 3 law Try.underlying56 _ M' k _ rfl HD.out (by unfold maxLen; omega) _ _ _ rfl rfl HK.out _ [] (plainElem_int Try.underlying3 (wf64 (by omega))) ?_))
        intro w4 hm4 hg4
        have HM4 := hide hm4
        have HG4 := hide hg4
        clear hm4 hg4
        go_wp2_with fail
        go_roundw
        case rel =>
          refine ⟨k + 1, by omega, by go_num, hide ⟨_, HM4.out, ?_⟩, hide ?_, hide ?_, hide ?_⟩
          · have := num_put HN.out (HD.out.tidy law).isMap HNI.out
            rw [← HTK.out, List.length_take, Nat.min_eq_left (by omega)] at this
            exact this
          · exact HW.out.grown HG4.out HW.out.size (fun j hj => by cases hj; exact HMZ.out)
          · exact (HG4.out.block B' (loc_lt HBX.out) (fun e => HMB.out (by cases e; rfl))).trans HBX.out
          · exact owns_keep HRW.out fun j hj => by cases hj; exact HG4.out.block _ (owns_lt HRW.out rfl) (fun e => HMG.out (by cases e; rfl))
        case measure => simp [intOf]; omega
      · have hk' : k = l.length := by omega
        subst hk'
        go_wp2_with fail
        go_ret
        obtain ⟨D, hD, hN⟩ := HMP.out
        rw [List.take_of_length_le (Nat.le_refl _)] at hN
        exact ⟨B', M', _, rfl, ⟨HBX.out, own_base HRW.out (Nat.zero_le _), ⟨D, hD, hN⟩, .inl rfl, HF.out.hB, HF.out.hM, fun g hg => (HRW.out.lt g hg).1, fun e => (by cases e), H.out.most1, H.out.most2, H.out.len, H.out.nodup, H.out.names⟩, HW.out⟩
end
end Go.Proofs.Ytijpdoclmplclaa
