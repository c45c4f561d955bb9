/- The page's table: Sorted. -/
import Derived.Test.YtijpdoclmplclaaRefAdd
import Derived.Test.YtijpdoclmplclaaInsP
import Derived.BigFrame
import Derived.BigQuiet
import Derived.Deep.QuietTactic
namespace Go.Proofs.Ytijpdoclmplclaa
open Go.RowKit Go.Shelf Go.Maps

theorem at7_len {xs : List Nat} {k i : Nat} : (at7 xs k i).length = xs.length + 1 := by
  have := (at7_perm xs k i).length_eq
  simpa using this
theorem at7_end (xs : List Nat) (i : Nat) : at7 xs xs.length i = xs ++ [i] := by unfold at7; simp
theorem at7_here {xs : List Nat} {k i : Nat} (h : k ≤ xs.length) : (at7 xs k i)[k]? = some i := by
  unfold at7
  rw [List.getElem?_append_right (by simp; omega)]
  simp [Nat.min_eq_left h]
theorem at7_ahead {xs : List Nat} {j i : Nat} (h : j < xs.length) : (at7 xs (j + 1) i)[j]? = some (xs.getD j 0) := by
  unfold at7
  rw [List.getElem?_append_left (by simp; omega), List.getElem?_take, if_pos (by omega), List.getElem?_eq_getElem h]
  simp [List.getD, h]
theorem at7_swap {xs : List Nat} {j i : Nat} (h : j < xs.length) : ((at7 xs (j + 1) i).set (j + 1) (xs.getD j 0)).set j i = at7 xs j i := by
  apply List.ext_getElem?
  intro m
  have hg : xs.getD j 0 = xs[j] := by simp [List.getD, h]
  have e1 : (at7 xs (j + 1) i).length = xs.length + 1 := at7_len
  rw [List.getElem?_set, List.getElem?_set, hg]
  unfold at7
  by_cases h1 : j = m
  · subst h1
    rw [if_pos rfl, if_pos (by simp only [List.length_set]; rw [show (List.take (j + 1) xs ++ i :: List.drop (j + 1) xs).length = xs.length + 1 from e1]; omega), List.getElem?_append_right (by simp; omega)]
    simp [Nat.min_eq_left (Nat.le_of_lt h)]
  · rw [if_neg h1]
    by_cases h2 : j + 1 = m
    · subst h2
      rw [if_pos rfl, if_pos (by rw [show (List.take (j + 1) xs ++ i :: List.drop (j + 1) xs).length = xs.length + 1 from e1]; omega), List.getElem?_append_right (by simp; omega)]
      simp [Nat.min_eq_left (Nat.le_of_lt h)]
    · rw [if_neg h2]
      by_cases h3 : m < j
      · rw [List.getElem?_append_left (by simp; omega), List.getElem?_append_left (by simp; omega), List.getElem?_take, List.getElem?_take, if_pos (by omega), if_pos h3]
      · rw [List.getElem?_append_right (by simp; omega), List.getElem?_append_right (by simp; omega)]
        have a1 : (List.take (j + 1) xs).length = j + 1 := by simp; omega
        have a2 : (List.take j xs).length = j := by simp; omega
        rw [a1, a2]
        obtain ⟨d, rfl⟩ : ∃ d, m = j + 2 + d := ⟨m - j - 2, by omega⟩
        rw [show j + 2 + d - (j + 1) = d + 1 from by omega, show j + 2 + d - j = d + 1 + 1 from by omega, List.getElem?_cons_succ, List.getElem?_cons_succ, List.getElem?_drop, List.getElem?_drop]
        congr 1
        omega
theorem ins_false {l : List Bytes} {xs : List Nat} {i j : Nat} (hx : Rises l xs) (hn : l.Nodup) (hlt : ∀ y ∈ xs, y < i) (hi : i < l.length) (hj : j < xs.length) (hb : ltB (l.getD i []) (l.getD (xs.getD j 0) []) = false) : ∀ y ∈ xs.take (j + 1), ltB (l.getD y []) (l.getD i []) = true := by
  have hg : xs.getD j 0 = xs[j] := by simp [List.getD, hj]
  rw [hg] at hb
  have hm : xs[j] ∈ xs := List.getElem_mem hj
  have hjl : xs[j] < l.length := by have := hlt _ hm; omega
  have key : ltB (l.getD xs[j] []) (l.getD i []) = true := by
    cases h : ltB (l.getD xs[j] []) (l.getD i []) with
    | true => rfl
    | false =>
      have e := ltB_conn _ _ h hb
      rw [List.getD_eq_getElem?_getD, List.getD_eq_getElem?_getD, List.getElem?_eq_getElem hjl, List.getElem?_eq_getElem hi] at e
      simp only [Option.getD_some] at e
      have := (List.getElem_inj (h₀ := hjl) (h₁ := hi) hn).1 e
      have := hlt _ hm
      omega
  intro y hy
  obtain ⟨m, hm1, rfl⟩ := List.getElem_of_mem hy
  rw [List.length_take] at hm1
  rw [List.getElem_take]
  by_cases e : m = j
  · subst e; exact key
  · exact ltB_trans _ _ _ (List.pairwise_iff_getElem.1 hx m j (by omega) hj (by omega)) key
theorem ints_set (xs : List Nat) (i v : Nat) : (ints xs).set i (.int .i64 (v : Int)) = ints (xs.set i v) := by unfold ints; rw [List.map_set]
theorem ints_get {xs : List Nat} {i v : Nat} (h : xs[i]? = some v) : (ints xs)[i]? = some (.int .i64 (v : Int)) := by unfold ints; rw [List.getElem?_map, h]; rfl

section
variable {Z : Nat → Prop} {B : Nat} {av : Value} {most : Int} {l : List Bytes} {w : World}

set_option maxRecDepth 100000 in
set_option maxHeartbeats 6400000 in
theorem rsorted_any (h : RTab Z B av most l w) (hn : l.Nodup) : Calls Try.prog 21 #[ptr B] w fun e w' =>
    ∃ va vc, e = .returned (.slice va l.length vc) ∧ w'.ownsRow w.heap.size 3 1 (.slice va l.length vc) l.length (ints (srt l)) ∧ Below w.heap.size w w' := by
  have H := hide h
  have HND := hide hn
  have hl : l.length ≤ 4096 := by have := h.len; have := h.most2; omega
  obtain ⟨ta, tc, rfl⟩ := owns_slice h.row
  obtain ⟨iM, hiM, zM0, zM1, zM2⟩ := info_parts' infoI
  clear h hn
  go_enter Try.func21, Try.ntmps21
  go_wp2_with fail
  go_loopw [3, 4] (fun s x wr => ∃ (i : Nat) (a : Option Addr) (c : Nat) (xs : List Nat), i ≤ l.length ∧ x = .int .i64 i ∧ s = .slice a i c ∧ Hid (wr.ownsRow w.heap.size 3 1 (.slice a i c) i (ints xs)) ∧ Hid (xs.Perm (List.range i) ∧ Rises l xs) ∧ Hid (Below w.heap.size w wr)) (fun _ x _ => l.length - (intOf x).toNat)
  case atStart => exact ⟨0, none, 0, [], by omega, rfl, rfl, hide ⟨rfl, .inl ⟨rfl, rfl⟩⟩, hide ⟨List.Perm.refl _, List.Pairwise.nil⟩, hide (Below.refl _ _)⟩
  case round =>
    obtain ⟨i, a, c, xs, hi, rfl, rfl, HO, HX, HW⟩ := hrel
    have c1 := cell_of_row wr B 1 _ _ _ ((H.out.below HW.out).box)
    simp at c1
    by_cases hlt : i < l.length
    · go_wp2_with (at_builtin; go_must (refine wpList_append_two _ rfl _ _ 45 rfl w.heap.size 3 iM _ 1 8 Try.underlying45 hiM zM0 zM1 zM2 rfl (by decide) _ _ _ rfl (HO.out.alloc _) ⟨wr.heap.size, 0, none⟩ 1 [.int .i64 i] rfl rfl (news_at rfl) (by simp [Value.oneCell']) (by unfold maxLen; omega) (by omega) (by have := HW.out.size; simp; omega) ?_))
      intro g cap w2 hown hg
      have HF2 : Hid (Below w.heap.size w w2) := by
        have hA : Below w.heap.size w (wr.alloc (.cells #[.int .i64 i] 3)) := HW.out.alloc HW.out.size _
        rcases hg with ⟨h1, h2⟩ | ⟨_, h2⟩
        · exact hA.grown h2 hA.size (fun j hj => by cases hj; exact (HO.out.lt g h1).1)
        · exact hA.grown h2 hA.size (fun j hj => by cases hj)
      have HLX : Hid (xs.length = i) := by have := HO.out.1; rw [ints_length, Nat.mul_one] at this; exact this
      have HO2 : Hid (w2.ownsRow w.heap.size 3 1 (.slice (some ⟨g, 0, none⟩) (i + 1) cap) (i + 1) (ints (at7 xs i i))) := by
        have e : ints (at7 xs i i) = ints xs ++ [.int .i64 (i : Int)] := by
          have := at7_end xs i
          rw [HLX.out] at this
          rw [this]
          unfold ints
          rw [List.map_append]
          rfl
        rw [e]
        exact hide hown
      clear hown hg HO HW c1
      go_wp2_with fail
      go_loopw [5] (fun x wq => ∃ k : Nat, k ≤ i ∧ x = .int .i64 k ∧ Hid (wq.ownsRow w.heap.size 3 1 (.slice (some ⟨g, 0, none⟩) (i + 1) cap) (i + 1) (ints (at7 xs k i))) ∧ Hid (∀ y ∈ xs.drop k, ltB (l.getD i []) (l.getD y []) = true) ∧ Hid (Below w.heap.size w wq)) (fun x _ => (intOf x).toNat)
      case atStart => exact ⟨i, by omega, rfl, HO2, hide (by rw [← HLX.out]; simp), HF2⟩
      case round =>
        obtain ⟨k, hk, rfl, HO, HDR, HW⟩ := hrel
        have HT := hide (H.out.below HW.out)
        have c1 := cell_of_row wr B 1 _ _ _ HT.out.box
        simp at c1
        have HPR : Hid ((i :: xs).Perm (List.range (i + 1))) := by
          rw [List.range_succ]
          exact hide ((List.Perm.cons i HX.out.1).trans (List.perm_append_singleton i (List.range i)).symm)
        have HLT : Hid (∀ y ∈ xs, y < i) := fun y hy => List.mem_range.1 (HX.out.1.subset hy)
        by_cases hz : k = 0
        · subst hz
          have hi0 : decide ((0 : Int) < 0) = false := by decide
          clear c1
          go_wp2_with fail
          go_quiet (fail)
          go_wp2_with fail
          go_roundw
          case rel => exact ⟨i + 1, _, cap, at7 xs 0 i, by omega, by go_num, rfl, hide (owns_keep HO.out fun _ _ => rfl), hide ⟨(at7_perm xs 0 i).trans HPR.out, at7_rises HX.out.2 (by simp) HDR.out⟩, hide (HW.out.trans ((below_drewN _ _).mono HW.out.size))⟩
          case measure => simp [intOf]; omega
        · obtain ⟨j, rfl⟩ : ∃ j, k = j + 1 := ⟨k - 1, by omega⟩
          have hj : j < xs.length := by have := HLX.out; omega
          have hi0 : decide ((0 : Int) < ((j + 1 : Nat) : Int)) = true := decide_eq_true (by omega)
          have hi1 : decide (0 < j + 1) = true := decide_eq_true (by omega)
          have hi2 : decide ((0 : Int) < (j : Int) + 1) = true := decide_eq_true (by omega)
          obtain ⟨g1, d1, e1, k0, kf, -⟩ := owns_at (own_zero HO.out) (ints_get (at7_here (xs := xs) (k := j + 1) (i := i) (by omega)))
          simp only [Value.slice.injEq, Option.some.injEq, Addr.mk.injEq] at e1
          obtain ⟨⟨rfl, -⟩, -, -⟩ := e1
          obtain ⟨g2, d2, e2, k1, -, -⟩ := owns_at (own_zero HO.out) (ints_get (at7_ahead (i := i) hj))
          simp only [Value.slice.injEq, Option.some.injEq, Addr.mk.injEq] at e2
          obtain ⟨⟨rfl, -⟩, -, -⟩ := e2
          have hy : xs.getD j 0 < l.length := by
            have := HLT.out (xs.getD j 0) (by rw [List.getD_eq_getElem?_getD, List.getElem?_eq_getElem hj]; simp)
            omega
          obtain ⟨ga, ca, e3, s0, -, -⟩ := owns_at HT.out.row (strs_at hlt)
          simp only [Value.slice.injEq] at e3
          obtain ⟨rfl, -, rfl⟩ := e3
          obtain ⟨gb, cb, e4, s1, -, -⟩ := owns_at HT.out.row (strs_at hy)
          simp only [Value.slice.injEq, Option.some.injEq, Addr.mk.injEq] at e4
          obtain ⟨⟨rfl, -⟩, -, -⟩ := e4
          cases hb : ltB (l.getD i []) (l.getD (xs.getD j 0) []) with
          | false =>
            have HTK : Hid (∀ y ∈ xs.take (j + 1), ltB (l.getD y []) (l.getD i []) = true) := ins_false HX.out.2 HND.out HLT.out hlt hj hb
            have hbl : Op.bytesLess (l.getD i []) (l.getD (xs.getD j 0) []) = false := (less_ltB _ _).trans hb
            generalize l.getD i [] = t at s0 hbl
            generalize l.getD (xs.getD j 0) [] = t1 at s1 hbl
            generalize xs.getD j 0 = y at k1 s1 hy
            unfold str at s0 s1
            clear hb hz kf
            go_wp2_with fail
            go_quiet (fail)
            go_wp2_with fail
            go_roundw
            case rel => exact ⟨i + 1, _, cap, at7 xs (j + 1) i, by omega, by go_num, rfl, hide (owns_keep HO.out fun _ _ => rfl), hide ⟨(at7_perm xs (j + 1) i).trans HPR.out, at7_rises HX.out.2 HTK.out HDR.out⟩, hide (HW.out.trans ((below_drewN _ _).mono HW.out.size))⟩
            case measure => simp [intOf]; omega
          | true =>
            have HDJ : Hid (∀ y ∈ xs.drop j, ltB (l.getD i []) (l.getD y []) = true) := by
              intro y hy'
              rw [List.drop_eq_getElem_cons hj] at hy'
              rcases List.mem_cons.1 hy' with rfl | hy'
              · rw [List.getD_eq_getElem?_getD (l := xs), List.getElem?_eq_getElem hj] at hb
                exact hb
              · exact HDR.out y hy'
            have HSW := hide (at7_swap (i := i) hj)
            have HGS : Hid (w.heap.size ≤ g) := hide (HO.out.lt g rfl).1
            have hbl : Op.bytesLess (l.getD i []) (l.getD (xs.getD j 0) []) = true := (less_ltB _ _).trans hb
            have f0 := kf (j + 1)
            have f1 := kf j
            obtain ⟨t, HTT⟩ : ∃ t, Hid (t = l.getD i []) := ⟨_, hide rfl⟩
            rw [← HTT.out] at s0 hbl
            generalize l.getD (xs.getD j 0) [] = t1 at s1 hbl
            generalize xs.getD j 0 = y at k1 s1 hy HSW
            unfold str at s0 s1
            clear hb hz kf
            go_wp2_with fail
            go_quiet (fail)
            go_wp2_with fail
            go_roundw
            case rel =>
              refine ⟨j, by omega, by go_num, hide ?_, HDJ, hide (((HW.out.trans ((below_drewN _ _).mono HW.out.size)).setCell HGS.out _).setCell HGS.out _)⟩
              have r3 : ∀ m, (((wr.drewN m).setCell ⟨g, j + 1, none⟩ (.int .i64 (y : Int))).setCell ⟨g, j, none⟩ (.int .i64 (i : Int))).ownsRow w.heap.size 3 1 (.slice (some ⟨g, 0, none⟩) (i + 1) cap) (i + 1) (ints (at7 xs j i)) := by
                intro m
                have r0 : (wr.drewN m).ownsRow w.heap.size 3 1 (.slice (some ⟨g, 0, none⟩) (i + 1) cap) (i + 1) (ints (at7 xs (j + 1) i)) := owns_keep HO.out fun _ _ => rfl
                have r2 := (((r0.stored (j + 1) (.int .i64 (y : Int))).1).stored j (.int .i64 (i : Int))).1
                rw [ints_set, ints_set, HSW.out] at r2
                exact r2
              exact r3 _
            case measure => simp [intOf]
    · have hk' : i = l.length := by omega
      subst hk'
      go_wp2_with fail
      go_ret
      have := rises_srt HND.out HX.out.1 HX.out.2
      subst this
      exact ⟨_, _, rfl, HO.out, HW.out⟩
end
end Go.Proofs.Ytijpdoclmplclaa
