/- The law's both, walked. -/
import Derived.Test.YtanonjggegibkaaBoth
namespace Go.Proofs.Ytanonjggegibkaa
open Go.RowKit

theorem mrg_step {acc m q r : List Int} {u : Int} (h : acc ++ m = r) (hm : m = u :: q) : (acc ++ [u]) ++ q = r := by rw [← h, hm]; simp
theorem dropc {l : List Int} {i : Nat} {u : Int} (h : l[i]? = some u) : l.drop i = u :: l.drop (i + 1) := by
  obtain ⟨hi, e⟩ := List.getElem?_eq_some_iff.1 h
  rw [List.drop_eq_getElem_cons hi, e]
set_option maxRecDepth 100000 in
set_option maxHeartbeats 12800000 in
theorem both_any {x y : List Int} {a b : Option Addr} {ca cb : Nat} {w : World} (ha : At1 w a (ints x)) (hb : At1 w b (ints y)) (hx4 : x.length ≤ 4096) (hy4 : y.length ≤ 4096) :
    Calls Try.prog 37 #[.slice a x.length ca, .slice b y.length cb] w fun e w' => ∃ r d, e = .returned (.slice r (mrg x y).length d) ∧ w'.ownsRow w.heap.size 3 1 (.slice r (mrg x y).length d) (mrg x y).length (ints (mrg x y)) ∧ Below w.heap.size w w' := by
  obtain ⟨iI, hiI, zI0, zI1, zI2⟩ := info_parts infoI
  have HX := hide ha
  have HY := hide hb
  clear ha hb
  go_enter Try.func37, Try.ntmps37
  go_wp2_with fail
  go_loopw [5, 6, 7] (fun cv iv jv wr => ∃ (i j : Nat) (acc : List Int) (r : Option Addr) (d : Nat), i ≤ x.length ∧ j ≤ y.length ∧ iv = .int .i64 i ∧ jv = .int .i64 j ∧ cv = .slice r acc.length d ∧ acc.length ≤ i + j ∧ Hid (acc ++ mrg (x.drop i) (y.drop j) = mrg x y) ∧ Hid (wr.ownsRow w.heap.size 3 1 (.slice r acc.length d) acc.length (ints acc)) ∧ Hid (Below w.heap.size w wr)) (fun _ iv jv _ => x.length + y.length - ((intOf iv).toNat + (intOf jv).toNat))
  case atStart => exact ⟨0, 0, [], none, 0, by omega, by omega, rfl, rfl, rfl, by simp, hide (by simp), hide ⟨rfl, .inl ⟨rfl, rfl⟩⟩, hide (Below.refl _ _)⟩
  case round =>
    obtain ⟨i, j, acc, r, d, hi, hj, rfl, rfl, rfl, hal, HM, HRow, HB⟩ := hrel
    by_cases hil : i < x.length
    · obtain ⟨u, hu⟩ := get_at hil
      obtain ⟨ga, oa, rfl, cu⟩ := (At1.below HX.out HB.out).get hu
      have HU := hide (dropc hu)
      clear hu
      by_cases hjl : j < y.length
      · obtain ⟨v, hv⟩ := get_at hjl
        obtain ⟨gb, ob, rfl, cv⟩ := (At1.below HY.out HB.out).get hv
        have HV := hide (dropc hv)
        have hjb : ((j : Int) == (y.length : Int)) = false := by simp; omega
        have hib : ((i : Int) == (x.length : Int)) = false := by simp; omega
        clear hv
        by_cases huv : u < v
        · have HN : Hid ((acc ++ [u]) ++ mrg (x.drop (i + 1)) (y.drop j) = mrg x y) := hide (mrg_step HM.out (by rw [HU.out, HV.out, mrg_lt huv]))
          clear HM HU HV
          go_upto_region 7 with fail
          go_quiet (fail)
          replace HRow : Hid ((wr.drewN nq).ownsRow w.heap.size 3 1 (.slice r acc.length d) acc.length (ints acc)) := HRow
          replace HB : Hid (Below w.heap.size w (wr.drewN nq)) := hide (HB.out.trans ((below_drewN wr nq).mono HB.out.size))
          try replace cu : (wr.drewN nq).cell? _ = _ := cu
          try replace cv : (wr.drewN nq).cell? _ = _ := cv
          generalize wr.drewN nq = wq at *
          have hA := below_new wq (.cells #[.int .i64 u] 3)
          have HROW := hide (owns_keep HRow.out fun g hg => hA.block g (owns_lt HRow.out hg))
          have hw2 : w.heap.size ≤ wq.heap.size := HB.out.size
          clear hA
          go_upto_region 9 with (at_builtin; go_must (refine wpList_append_two _ rfl _ _ 26 rfl w.heap.size 3 iI _ 1 8 Try.underlying26 hiI zI0 zI1 zI2 rfl (by decide) _ _ (ints acc) rfl HROW.out ⟨wq.heap.size, 0, none⟩ 1 [.int .i64 u] rfl rfl (cell_one_new _ _ _) (by intro u hu; simp at hu; subst hu; rfl) (by unfold maxLen; omega) (by omega) (by simp; omega) ?_); intro g4 cap4 w4 hown4 hg4)
          have hg5 : (Value.ownBlock (.slice r acc.length d) = some g4 ∧ (wq.alloc (.cells #[.int .i64 u] 3)).grownBy w4 (some g4)) ∨ (g4 = wq.heap.size + 1 ∧ (wq.alloc (.cells #[.int .i64 u] 3)).grownBy w4 none) := by
            rcases hg4 with h | ⟨h1, h2⟩
            · exact .inl h
            · exact .inr ⟨by simpa using h1, h2⟩
          have HF4 := hide (HB.out.trans ((grown_fr (Z := fun k => w.heap.size ≤ k) rfl hg5 fun g e => (HRow.out.lt g e).1).below fun k hk => ⟨by omega, by omega⟩))
          have HO4 := hide hown4
          clear hown4 hg4 hg5 cu cv
          go_wp2_with fail
          go_roundw
          case rel => exact ⟨i + 1, j, acc ++ [u], some ⟨g4, 0, none⟩, cap4, by omega, by omega, by go_num, by go_num, by rw [List.length_append]; rfl, by rw [List.length_append]; simp; omega, HN, hide (by rw [List.length_append, ints_snoc]; exact HO4.out), HF4⟩
          case measure => simp [intOf]; omega
        · by_cases hvu : v < u
          · have HN : Hid ((acc ++ [v]) ++ mrg (x.drop i) (y.drop (j + 1)) = mrg x y) := hide (mrg_step HM.out (by rw [HU.out, HV.out, mrg_gt hvu]))
            clear HM HU HV
            go_upto_region 7 with fail
            go_quiet (fail)
            replace HRow : Hid ((wr.drewN nq).ownsRow w.heap.size 3 1 (.slice r acc.length d) acc.length (ints acc)) := HRow
            replace HB : Hid (Below w.heap.size w (wr.drewN nq)) := hide (HB.out.trans ((below_drewN wr nq).mono HB.out.size))
            try replace cu : (wr.drewN nq).cell? _ = _ := cu
            try replace cv : (wr.drewN nq).cell? _ = _ := cv
            generalize wr.drewN nq = wq at *
            go_upto_region 10 with fail
            go_quiet (fail)
            replace HRow : Hid ((wq.drewN nq).ownsRow w.heap.size 3 1 (.slice r acc.length d) acc.length (ints acc)) := HRow
            replace HB : Hid (Below w.heap.size w (wq.drewN nq)) := hide (HB.out.trans ((below_drewN wq nq).mono HB.out.size))
            try replace cu : (wq.drewN nq).cell? _ = _ := cu
            try replace cv : (wq.drewN nq).cell? _ = _ := cv
            generalize wq.drewN nq = wp at *
            have hA := below_new wp (.cells #[.int .i64 v] 3)
            have HROW := hide (owns_keep HRow.out fun g hg => hA.block g (owns_lt HRow.out hg))
            have hw2 : w.heap.size ≤ wp.heap.size := HB.out.size
            clear hA
            go_upto_region 12 with (at_builtin; go_must (refine wpList_append_two _ rfl _ _ 26 rfl w.heap.size 3 iI _ 1 8 Try.underlying26 hiI zI0 zI1 zI2 rfl (by decide) _ _ (ints acc) rfl HROW.out ⟨wp.heap.size, 0, none⟩ 1 [.int .i64 v] rfl rfl (cell_one_new _ _ _) (by intro u hu; simp at hu; subst hu; rfl) (by unfold maxLen; omega) (by omega) (by simp; omega) ?_); intro g4 cap4 w4 hown4 hg4)
            have hg5 : (Value.ownBlock (.slice r acc.length d) = some g4 ∧ (wp.alloc (.cells #[.int .i64 v] 3)).grownBy w4 (some g4)) ∨ (g4 = wp.heap.size + 1 ∧ (wp.alloc (.cells #[.int .i64 v] 3)).grownBy w4 none) := by
              rcases hg4 with h | ⟨h1, h2⟩
              · exact .inl h
              · exact .inr ⟨by simpa using h1, h2⟩
            have HF4 := hide (HB.out.trans ((grown_fr (Z := fun k => w.heap.size ≤ k) rfl hg5 fun g e => (HRow.out.lt g e).1).below fun k hk => ⟨by omega, by omega⟩))
            have HO4 := hide hown4
            clear hown4 hg4 hg5 cu cv
            go_wp2_with fail
            go_roundw
            case rel => exact ⟨i, j + 1, acc ++ [v], some ⟨g4, 0, none⟩, cap4, by omega, by omega, by go_num, by go_num, by rw [List.length_append]; rfl, by rw [List.length_append]; simp; omega, HN, hide (by rw [List.length_append, ints_snoc]; exact HO4.out), HF4⟩
            case measure => simp [intOf]; omega
          · have e : u = v := by omega
            have HN : Hid ((acc ++ [u]) ++ mrg (x.drop (i + 1)) (y.drop (j + 1)) = mrg x y) := hide (mrg_step HM.out (by rw [HU.out, HV.out, e, mrg_eq]))
            clear HM HU HV e
            go_upto_region 7 with fail
            go_quiet (fail)
            replace HRow : Hid ((wr.drewN nq).ownsRow w.heap.size 3 1 (.slice r acc.length d) acc.length (ints acc)) := HRow
            replace HB : Hid (Below w.heap.size w (wr.drewN nq)) := hide (HB.out.trans ((below_drewN wr nq).mono HB.out.size))
            try replace cu : (wr.drewN nq).cell? _ = _ := cu
            try replace cv : (wr.drewN nq).cell? _ = _ := cv
            generalize wr.drewN nq = wq at *
            go_upto_region 10 with fail
            go_quiet (fail)
            replace HRow : Hid ((wq.drewN nq).ownsRow w.heap.size 3 1 (.slice r acc.length d) acc.length (ints acc)) := HRow
            replace HB : Hid (Below w.heap.size w (wq.drewN nq)) := hide (HB.out.trans ((below_drewN wq nq).mono HB.out.size))
            try replace cu : (wq.drewN nq).cell? _ = _ := cu
            try replace cv : (wq.drewN nq).cell? _ = _ := cv
            generalize wq.drewN nq = wp at *
            have hA := below_new wp (.cells #[.int .i64 u] 3)
            have HROW := hide (owns_keep HRow.out fun g hg => hA.block g (owns_lt HRow.out hg))
            have hw2 : w.heap.size ≤ wp.heap.size := HB.out.size
            clear hA
            go_upto_region 5 with (at_builtin; go_must (refine wpList_append_two _ rfl _ _ 26 rfl w.heap.size 3 iI _ 1 8 Try.underlying26 hiI zI0 zI1 zI2 rfl (by decide) _ _ (ints acc) rfl HROW.out ⟨wp.heap.size, 0, none⟩ 1 [.int .i64 u] rfl rfl (cell_one_new _ _ _) (by intro u hu; simp at hu; subst hu; rfl) (by unfold maxLen; omega) (by omega) (by simp; omega) ?_); intro g4 cap4 w4 hown4 hg4)
            have hg5 : (Value.ownBlock (.slice r acc.length d) = some g4 ∧ (wp.alloc (.cells #[.int .i64 u] 3)).grownBy w4 (some g4)) ∨ (g4 = wp.heap.size + 1 ∧ (wp.alloc (.cells #[.int .i64 u] 3)).grownBy w4 none) := by
              rcases hg4 with h | ⟨h1, h2⟩
              · exact .inl h
              · exact .inr ⟨by simpa using h1, h2⟩
            have HF4 := hide (HB.out.trans ((grown_fr (Z := fun k => w.heap.size ≤ k) rfl hg5 fun g e => (HRow.out.lt g e).1).below fun k hk => ⟨by omega, by omega⟩))
            have HO4 := hide hown4
            clear hown4 hg4 hg5 cu cv
            go_wp2_with fail
            go_roundw
            case rel => exact ⟨i + 1, j + 1, acc ++ [u], some ⟨g4, 0, none⟩, cap4, by omega, by omega, by go_num, by go_num, by rw [List.length_append]; rfl, by rw [List.length_append]; simp; omega, HN, hide (by rw [List.length_append, ints_snoc]; exact HO4.out), HF4⟩
            case measure => simp [intOf]; omega
      · have hjb : ((j : Int) == (y.length : Int)) = true := by simp; omega
        have HN : Hid ((acc ++ [u]) ++ mrg (x.drop (i + 1)) (y.drop j) = mrg x y) := hide (mrg_step HM.out (by rw [HU.out, List.drop_of_length_le (l := y) (by omega), mrg_nil, mrg_nil]))
        clear HM HU
        go_upto_region 7 with fail
        go_quiet (fail)
        replace HRow : Hid ((wr.drewN nq).ownsRow w.heap.size 3 1 (.slice r acc.length d) acc.length (ints acc)) := HRow
        replace HB : Hid (Below w.heap.size w (wr.drewN nq)) := hide (HB.out.trans ((below_drewN wr nq).mono HB.out.size))
        try replace cu : (wr.drewN nq).cell? _ = _ := cu
        try replace cv : (wr.drewN nq).cell? _ = _ := cv
        generalize wr.drewN nq = wq at *
        have hA := below_new wq (.cells #[.int .i64 u] 3)
        have HROW := hide (owns_keep HRow.out fun g hg => hA.block g (owns_lt HRow.out hg))
        have hw2 : w.heap.size ≤ wq.heap.size := HB.out.size
        clear hA
        go_upto_region 9 with (at_builtin; go_must (refine wpList_append_two _ rfl _ _ 26 rfl w.heap.size 3 iI _ 1 8 Try.underlying26 hiI zI0 zI1 zI2 rfl (by decide) _ _ (ints acc) rfl HROW.out ⟨wq.heap.size, 0, none⟩ 1 [.int .i64 u] rfl rfl (cell_one_new _ _ _) (by intro u hu; simp at hu; subst hu; rfl) (by unfold maxLen; omega) (by omega) (by simp; omega) ?_); intro g4 cap4 w4 hown4 hg4)
        have hg5 : (Value.ownBlock (.slice r acc.length d) = some g4 ∧ (wq.alloc (.cells #[.int .i64 u] 3)).grownBy w4 (some g4)) ∨ (g4 = wq.heap.size + 1 ∧ (wq.alloc (.cells #[.int .i64 u] 3)).grownBy w4 none) := by
          rcases hg4 with h | ⟨h1, h2⟩
          · exact .inl h
          · exact .inr ⟨by simpa using h1, h2⟩
        have HF4 := hide (HB.out.trans ((grown_fr (Z := fun k => w.heap.size ≤ k) rfl hg5 fun g e => (HRow.out.lt g e).1).below fun k hk => ⟨by omega, by omega⟩))
        have HO4 := hide hown4
        clear hown4 hg4 hg5 cu
        go_wp2_with fail
        go_roundw
        case rel => exact ⟨i + 1, j, acc ++ [u], some ⟨g4, 0, none⟩, cap4, by omega, by omega, by go_num, by go_num, by rw [List.length_append]; rfl, by rw [List.length_append]; simp; omega, HN, hide (by rw [List.length_append, ints_snoc]; exact HO4.out), HF4⟩
        case measure => simp [intOf]; omega
    · by_cases hjl : j < y.length
      · obtain ⟨v, hv⟩ := get_at hjl
        obtain ⟨gb, ob, rfl, cv⟩ := (At1.below HY.out HB.out).get hv
        have HV := hide (dropc hv)
        have hjb : ((j : Int) == (y.length : Int)) = false := by simp; omega
        have hib : ((i : Int) == (x.length : Int)) = true := by simp; omega
        have HN : Hid ((acc ++ [v]) ++ mrg (x.drop i) (y.drop (j + 1)) = mrg x y) := hide (mrg_step HM.out (by rw [HV.out, List.drop_of_length_le (l := x) (by omega), mrg_nil2, mrg_nil2]))
        clear hv HM HV
        go_upto_region 7 with fail
        go_quiet (fail)
        replace HRow : Hid ((wr.drewN nq).ownsRow w.heap.size 3 1 (.slice r acc.length d) acc.length (ints acc)) := HRow
        replace HB : Hid (Below w.heap.size w (wr.drewN nq)) := hide (HB.out.trans ((below_drewN wr nq).mono HB.out.size))
        try replace cu : (wr.drewN nq).cell? _ = _ := cu
        try replace cv : (wr.drewN nq).cell? _ = _ := cv
        generalize wr.drewN nq = wq at *
        go_upto_region 10 with fail
        go_quiet (fail)
        replace HRow : Hid ((wq.drewN nq).ownsRow w.heap.size 3 1 (.slice r acc.length d) acc.length (ints acc)) := HRow
        replace HB : Hid (Below w.heap.size w (wq.drewN nq)) := hide (HB.out.trans ((below_drewN wq nq).mono HB.out.size))
        try replace cu : (wq.drewN nq).cell? _ = _ := cu
        try replace cv : (wq.drewN nq).cell? _ = _ := cv
        generalize wq.drewN nq = wp at *
        have hA := below_new wp (.cells #[.int .i64 v] 3)
        have HROW := hide (owns_keep HRow.out fun g hg => hA.block g (owns_lt HRow.out hg))
        have hw2 : w.heap.size ≤ wp.heap.size := HB.out.size
        clear hA
        go_upto_region 12 with (at_builtin; go_must (refine wpList_append_two _ rfl _ _ 26 rfl w.heap.size 3 iI _ 1 8 Try.underlying26 hiI zI0 zI1 zI2 rfl (by decide) _ _ (ints acc) rfl HROW.out ⟨wp.heap.size, 0, none⟩ 1 [.int .i64 v] rfl rfl (cell_one_new _ _ _) (by intro u hu; simp at hu; subst hu; rfl) (by unfold maxLen; omega) (by omega) (by simp; omega) ?_); intro g4 cap4 w4 hown4 hg4)
        have hg5 : (Value.ownBlock (.slice r acc.length d) = some g4 ∧ (wp.alloc (.cells #[.int .i64 v] 3)).grownBy w4 (some g4)) ∨ (g4 = wp.heap.size + 1 ∧ (wp.alloc (.cells #[.int .i64 v] 3)).grownBy w4 none) := by
          rcases hg4 with h | ⟨h1, h2⟩
          · exact .inl h
          · exact .inr ⟨by simpa using h1, h2⟩
        have HF4 := hide (HB.out.trans ((grown_fr (Z := fun k => w.heap.size ≤ k) rfl hg5 fun g e => (HRow.out.lt g e).1).below fun k hk => ⟨by omega, by omega⟩))
        have HO4 := hide hown4
        clear hown4 hg4 hg5 cv
        go_wp2_with fail
        go_roundw
        case rel => exact ⟨i, j + 1, acc ++ [v], some ⟨g4, 0, none⟩, cap4, by omega, by omega, by go_num, by go_num, by rw [List.length_append]; rfl, by rw [List.length_append]; simp; omega, HN, hide (by rw [List.length_append, ints_snoc]; exact HO4.out), HF4⟩
        case measure => simp [intOf]; omega
      · have HN : Hid (acc = mrg x y) := hide (by have := HM.out; rw [List.drop_of_length_le (l := x) (by omega), List.drop_of_length_le (l := y) (by omega), mrg_nil] at this; simpa using this)
        clear HM
        go_wp2_with fail
        go_ret
        rw [← HN.out]
        exact ⟨r, d, rfl, HRow.out, HB.out⟩
end Go.Proofs.Ytanonjggegibkaa
