/- PriorOne: its walk. -/
import Derived.Test.YtbdlgglbcaoakaaGreatPrHpp
import Derived.Test.YtbdlgglbcaoakaaGreatPrAlvM
namespace Go.Proofs.YtbdlgglbcaoakaaGreat
open Go.RowKit Go.Shelf Go.Maps Go.WideMaps
set_option maxHeartbeats 1600000 in
theorem num13_any (w : World) (e : Int) : Calls Tryz.prog 7 #[.int .i64 e] w fun r w' => r = .returned (.int .i64 e) ∧ w = w' := by
  go_enter Tryz.func7, Tryz.ntmps7
  go_wp2_with fail
  go_ret
  exact ⟨rfl, rfl⟩
set_option maxRecDepth 100000 in
set_option maxHeartbeats 12800000 in
theorem one_walk {S : StatM} {st : St9} {w : World} (h : SR w.heap.size w S st) (za zb : Int) :
    Calls Tryz.prog 4 #[st.agg, .int .i64 za, .int .i64 zb] w fun e w' => e = .returned (.bool true) ∧ Below w.heap.size w w' := by
  obtain ⟨tt, ht⟩ := h.title
  obtain ⟨a1, b1, f1, _, l1⟩ := h.kinds.form
  obtain ⟨a2, b2, f2, _, l2⟩ := h.members.form
  obtain ⟨a3, b3, f3, _, l3⟩ := h.preds.form
  obtain ⟨a4, b4, f4, _, l4⟩ := h.classes.form
  obtain ⟨a5, b5, f5, _, l5⟩ := h.sources.form
  obtain ⟨a6, b6, f6, _, l6⟩ := h.rules.form
  obtain ⟨a7, b7, f7, _, l7⟩ := h.excepts.form
  obtain ⟨a8, b8, f8, _, l8⟩ := h.totals.form
  obtain ⟨s0, s1, s2, s3, s4, s5, s6, s7, s8⟩ := st
  simp only at ht f1 f2 f3 f4 f5 f6 f7 f8
  subst ht f1 f2 f3 f4 f5 f6 f7 f8
  have hA : Below w.heap.size w (w.alloc (.cells #[.string tt, .slice a1 S.kinds.length b1, .slice a2 S.members.length b2, .slice a3 S.preds.length b3, .slice a4 S.classes.length b4, .slice a5 S.sources.length b5, .slice a6 S.rules.length b6, .slice a7 S.excepts.length b7, .slice a8 S.totals.length b8] 31)) := (Below.refl _ w).alloc (Nat.le_refl _) _
  have hbx := heap_alloc_new w (.cells #[.string tt, .slice a1 S.kinds.length b1, .slice a2 S.members.length b2, .slice a3 S.preds.length b3, .slice a4 S.classes.length b4, .slice a5 S.sources.length b5, .slice a6 S.rules.length b6, .slice a7 S.excepts.length b7, .slice a8 S.totals.length b8] 31)
  have HS := hide fun (X : World) (hb : Below w.heap.size w X) => h.up hb
  have CP : Hid (∀ (X : World) (hb : Below w.heap.size w X) (x y : Int), _) := hide fun (X : World) (hb : Below w.heap.size w X) (x y : Int) => prevails_fn (h.up hb) x y
  unfold St9.agg at *
  simp only at *
  have HA := hide hA
  have HBX := hide hbx
  clear h hA hbx
  go_enter Tryz.func4, Tryz.ntmps4
  go_wp2_with fail
  refine (Pr.alive_any _).mono ?_
  rintro _ w1 ⟨rfl, hb1⟩
  have HB1 := hide (HA.out.trans (hb1.mono HA.out.size))
  have HX1 := hide ((hb1.block w.heap.size (loc_lt HBX.out)).trans HBX.out)
  clear hb1 HA HBX
  have k0 := cell_of_row w1 w.heap.size 0 _ _ _ HX1.out
  have k1 := cell_of_row w1 w.heap.size 1 _ _ _ HX1.out
  have k2 := cell_of_row w1 w.heap.size 2 _ _ _ HX1.out
  have k3 := cell_of_row w1 w.heap.size 3 _ _ _ HX1.out
  have k4 := cell_of_row w1 w.heap.size 4 _ _ _ HX1.out
  have k5 := cell_of_row w1 w.heap.size 5 _ _ _ HX1.out
  have k6 := cell_of_row w1 w.heap.size 6 _ _ _ HX1.out
  have k7 := cell_of_row w1 w.heap.size 7 _ _ _ HX1.out
  have k8 := cell_of_row w1 w.heap.size 8 _ _ _ HX1.out
  simp at k0 k1 k2 k3 k4 k5 k6 k7 k8
  go_wp2_with fail
  refine (CP.out w1 HB1.out za zb).mono ?_
  rintro _ w2 ⟨rfl, hb2⟩
  have HB2 := hide (HB1.out.trans (hb2.mono HB1.out.size))
  have HX2 := hide ((hb2.block w.heap.size (loc_lt HX1.out)).trans HX1.out)
  clear hb2 HX1 HB1 k0 k1 k2 k3 k4 k5 k6 k7 k8
  have k0 := cell_of_row w2 w.heap.size 0 _ _ _ HX2.out
  have k1 := cell_of_row w2 w.heap.size 1 _ _ _ HX2.out
  have k2 := cell_of_row w2 w.heap.size 2 _ _ _ HX2.out
  have k3 := cell_of_row w2 w.heap.size 3 _ _ _ HX2.out
  have k4 := cell_of_row w2 w.heap.size 4 _ _ _ HX2.out
  have k5 := cell_of_row w2 w.heap.size 5 _ _ _ HX2.out
  have k6 := cell_of_row w2 w.heap.size 6 _ _ _ HX2.out
  have k7 := cell_of_row w2 w.heap.size 7 _ _ _ HX2.out
  have k8 := cell_of_row w2 w.heap.size 8 _ _ _ HX2.out
  simp at k0 k1 k2 k3 k4 k5 k6 k7 k8
  go_wp2_with fail
  refine (CP.out w2 HB2.out zb za).mono ?_
  rintro _ w3 ⟨rfl, hb3⟩
  have HB3 := hide (HB2.out.trans (hb3.mono HB2.out.size))
  have HX3 := hide ((hb3.block w.heap.size (loc_lt HX2.out)).trans HX2.out)
  clear hb3 HX2 HB2 CP k0 k1 k2 k3 k4 k5 k6 k7 k8
  have HE := hide (prev_err (S := S) (a := za) (b := zb))
  have HO := hide (prev_ok (S := S) (a := za) (b := zb))
  obtain ⟨vx, hvx⟩ : ∃ v, (prevM S za zb).1 = v := ⟨_, rfl⟩
  obtain ⟨vy, hvy⟩ : ∃ v, (prevM S zb za).1 = v := ⟨_, rfl⟩
  obtain ⟨ex, hex⟩ : ∃ v, (prevM S za zb).2 = v := ⟨_, rfl⟩
  obtain ⟨ey, hey⟩ : ∃ v, (prevM S zb za).2 = v := ⟨_, rfl⟩
  rw [hvx, hvy, hex, hey] at HE
  rw [hvx, hvy, hex] at HO
  rw [hvx, hvy, hex, hey]
  clear hvx hvy hex hey
  by_cases he1 : ex = 0
  · subst he1
    by_cases he2 : ey = 0
    · subst he2
      go_wp2_with fail
      refine (num13_any _ _).mono ?_
      rintro _ _ ⟨rfl, rfl⟩
      go_wp2_with fail
      refine (num13_any _ _).mono ?_
      rintro _ _ ⟨rfl, rfl⟩
      have k6 := cell_of_row w3 w.heap.size 6 _ _ _ HX3.out
      have k7 := cell_of_row w3 w.heap.size 7 _ _ _ HX3.out
      simp at k6 k7
      obtain ⟨a, b, rfl, rfl, ha, hb, hck, hvx, hvy⟩ := HO.out trivial
      obtain ⟨x, hx⟩ : ∃ x, S.rules[a]? = some x := ⟨_, List.getElem?_eq_getElem ha⟩
      obtain ⟨y, hy⟩ : ∃ y, S.rules[b]? = some y := ⟨_, List.getElem?_eq_getElem hb⟩
      have hS3 := HS.out w3 HB3.out
      obtain ⟨g1, o1, _, _, _, _, rfl, hg1, p0, _, _, _, _, _, _, _, _, _, _, hn1, _⟩ := at_R hS3.rules hx
      obtain ⟨g2, o2, _, _, _, _, e2, hg2, q0, _, _, _, _, _, _, _, _, _, _, hn2, _⟩ := at_R hS3.rules hy
      simp only [Option.some.injEq, Addr.mk.injEq, and_true] at e2
      obtain ⟨rfl, rfl⟩ := e2
      have hxl : ∀ p ∈ S.excepts, p.1.length ≤ maxLen ∧ p.2.length ≤ maxLen := by
        intro p hp
        obtain ⟨i, hi⟩ := List.mem_iff_getElem?.1 hp
        obtain ⟨_, _, _, _, _, _, h1, h2⟩ := at_M hS3.excepts hi
        exact ⟨h1, h2⟩
      have HW1 : Hid (S.weighM a b = wgM (decide ((x.name, y.name) ∈ S.excepts)) (decide ((y.name, x.name) ∈ S.excepts)) (rkV S.sources x.source) (rkV S.sources y.source) x.day y.day) := hide (by
        rw [← exB_iff (x := (x.name, y.name)) hn1 hn2 hxl, ← exB_iff (x := (y.name, x.name)) hn2 hn1 hxl]
        unfold StatM.weighM; simp only [List.getD_eq_getElem?_getD, hx, hy]; rfl)
      have HW2 : Hid (S.weighM b a = wgM (decide ((y.name, x.name) ∈ S.excepts)) (decide ((x.name, y.name) ∈ S.excepts)) (rkV S.sources y.source) (rkV S.sources x.source) y.day x.day) := hide (by
        rw [← exB_iff (x := (x.name, y.name)) hn1 hn2 hxl, ← exB_iff (x := (y.name, x.name)) hn2 hn1 hxl]
        unfold StatM.weighM; simp only [List.getD_eq_getElem?_getD, hx, hy]; rfl)
      have HFIN : Hid (((!vx || !vy || decide ((x.name, y.name) ∈ S.excepts) && decide ((y.name, x.name) ∈ S.excepts)) && (!decide ((x.name, y.name) ∈ S.excepts) || vx) && (!decide ((y.name, x.name) ∈ S.excepts) || vy)) = true) := hide (by
        rw [hvx, hvy, HW1.out, HW2.out]; exact one_plain _ _ _ _ _ _)
      have HEX : Hid (RR w3.heap.size 2 cM w3 S.excepts (.slice a7 S.excepts.length b7)) := hide hS3.excepts
      unfold str at p0 q0
      obtain ⟨nx, hnx⟩ : ∃ n, S.excepts.length = n := ⟨_, rfl⟩
      have HNX := hide hnx
      rw [hnx] at k7 HEX l7
      obtain ⟨nr, hnr⟩ : ∃ n, S.rules.length = n := ⟨_, rfl⟩
      rw [hnr] at k6 ha hb l6
      clear HW1 HW2 hvx hvy hx hy hS3 hxl HO HE HS HX3 hnx hnr hck
      go_wp2_with fail
      go_loopw [11, 12, 13] (fun x1 x2 x3 wr => ∃ (i q : Nat) (ab ba : Bool), i ≤ nx ∧ x1 = .bool ab ∧ x2 = .bool ba ∧ x3 = .int .i64 i ∧ wr = w3.drewN q ∧ Hid (ab = decide ((x.name, y.name) ∈ S.excepts.take i)) ∧ Hid (ba = decide ((y.name, x.name) ∈ S.excepts.take i))) (fun _ _ x3 _ => nx - (intOf x3).toNat)
      case atStart => exact ⟨0, 0, false, false, by omega, rfl, rfl, rfl, rfl, hide (by simp), hide (by simp)⟩
      case round =>
        obtain ⟨i, q, ab, ba, hi, rfl, rfl, rfl, rfl, HAB, HBA⟩ := hrel
        by_cases hlt : i < nx
        · obtain ⟨p, hp⟩ : ∃ p, S.excepts[i]? = some p := ⟨_, List.getElem?_eq_getElem (by rw [HNX.out]; exact hlt)⟩
          obtain ⟨g, o, rfl, hg, c1, c2, hp1, hp2⟩ := at_M HEX.out hp
          have HT : Hid (S.excepts.take (i + 1) = S.excepts.take i ++ [p]) := hide (by rw [List.take_add_one, hp]; rfl)
          unfold str at c1 c2
          clear hp HFIN
          have HTA : Hid (∀ u v : Bytes, decide ((u, v) ∈ S.excepts.take (i + 1)) = (decide ((u, v) ∈ S.excepts.take i) || (decide (p.1 = u) && decide (p.2 = v)))) := hide (fun u v => by
            rw [HT.out]
            simp only [List.mem_append, List.mem_singleton, Prod.ext_iff, Bool.decide_or, Bool.decide_and]
            congr 2 <;> exact decide_eq_decide.2 eq_comm)
          have HAB2 := hide (HTA.out x.name y.name)
          have HBA2 := hide (HTA.out y.name x.name)
          rw [← HAB.out] at HAB2
          rw [← HBA.out] at HBA2
          obtain ⟨P1, hP1⟩ : ∃ P : ByteArray, (⟨p.1.toArray⟩ : ByteArray) = P := ⟨_, rfl⟩
          obtain ⟨P2, hP2⟩ : ∃ P : ByteArray, (⟨p.2.toArray⟩ : ByteArray) = P := ⟨_, rfl⟩
          obtain ⟨X, hX⟩ : ∃ P : ByteArray, (⟨x.name.toArray⟩ : ByteArray) = P := ⟨_, rfl⟩
          obtain ⟨Y, hY⟩ : ∃ P : ByteArray, (⟨y.name.toArray⟩ : ByteArray) = P := ⟨_, rfl⟩
          have E1 : decide (p.1 = x.name) = (P1.toList == X.toList) := by rw [← hP1, ← hX]; apply Bool.eq_iff_iff.2; simp
          have E2 : decide (p.1 = y.name) = (P1.toList == Y.toList) := by rw [← hP1, ← hY]; apply Bool.eq_iff_iff.2; simp
          have E3 : decide (p.2 = x.name) = (P2.toList == X.toList) := by rw [← hP2, ← hX]; apply Bool.eq_iff_iff.2; simp
          have E4 : decide (p.2 = y.name) = (P2.toList == Y.toList) := by rw [← hP2, ← hY]; apply Bool.eq_iff_iff.2; simp
          rw [E1, E4] at HAB2
          rw [E2, E3] at HBA2
          rw [hP1] at c1
          rw [hP2] at c2
          rw [hX] at p0
          rw [hY] at q0
          clear E1 E2 E3 E4 hP1 hP2 hX hY HT HTA HAB HBA
          obtain ⟨d1, hd1⟩ : ∃ d, (P1.toList == X.toList) = d := ⟨_, rfl⟩
          obtain ⟨d2, hd2⟩ : ∃ d, (P1.toList == Y.toList) = d := ⟨_, rfl⟩
          obtain ⟨d3, hd3⟩ : ∃ d, (P2.toList == X.toList) = d := ⟨_, rfl⟩
          obtain ⟨d4, hd4⟩ : ∃ d, (P2.toList == Y.toList) = d := ⟨_, rfl⟩
          rw [hd1, hd4] at HAB2
          rw [hd2, hd3] at HBA2
          go_upto_region 11 with fail
          cases ab with
          | true =>
            go_quiet (fail)
            rw [World.drewN_drewN]
            generalize q + nq = q at *
            go_upto_region 12 with fail
            cases ba with
            | true =>
              go_quiet (fail)
              go_wp2_with fail
              go_roundw
              case rel => exact ⟨i + 1, q + nq, _, _, by omega, rfl, rfl, by go_num, rfl, hide (by rw [HAB2.out]; rfl), hide (by rw [HBA2.out]; rfl)⟩
              case measure => simp [intOf]; omega
            | false =>
              cases d2 with
              | false =>
                go_quiet (fail)
                go_wp2_with fail
                go_roundw
                case rel => exact ⟨i + 1, q + nq, _, _, by omega, rfl, rfl, by go_num, rfl, hide (by rw [HAB2.out]; rfl), hide (by rw [HBA2.out]; rfl)⟩
                case measure => simp [intOf]; omega
              | true =>
                cases d3 with
                | false =>
                  go_quiet (fail)
                  go_wp2_with fail
                  go_roundw
                  case rel => exact ⟨i + 1, q + nq, _, _, by omega, rfl, rfl, by go_num, rfl, hide (by rw [HAB2.out]; rfl), hide (by rw [HBA2.out]; rfl)⟩
                  case measure => simp [intOf]; omega
                | true =>
                  go_quiet (fail)
                  go_wp2_with fail
                  go_roundw
                  case rel => exact ⟨i + 1, q + nq, _, _, by omega, rfl, rfl, by go_num, rfl, hide (by rw [HAB2.out]; rfl), hide (by rw [HBA2.out]; rfl)⟩
                  case measure => simp [intOf]; omega
          | false =>
            cases d1 with
            | false =>
              go_quiet (fail)
              rw [World.drewN_drewN]
              generalize q + nq = q at *
              go_upto_region 12 with fail
              cases ba with
              | true =>
                go_quiet (fail)
                go_wp2_with fail
                go_roundw
                case rel => exact ⟨i + 1, q + nq, _, _, by omega, rfl, rfl, by go_num, rfl, hide (by rw [HAB2.out]; rfl), hide (by rw [HBA2.out]; rfl)⟩
                case measure => simp [intOf]; omega
              | false =>
                cases d2 with
                | false =>
                  go_quiet (fail)
                  go_wp2_with fail
                  go_roundw
                  case rel => exact ⟨i + 1, q + nq, _, _, by omega, rfl, rfl, by go_num, rfl, hide (by rw [HAB2.out]; rfl), hide (by rw [HBA2.out]; rfl)⟩
                  case measure => simp [intOf]; omega
                | true =>
                  cases d3 with
                  | false =>
                    go_quiet (fail)
                    go_wp2_with fail
                    go_roundw
                    case rel => exact ⟨i + 1, q + nq, _, _, by omega, rfl, rfl, by go_num, rfl, hide (by rw [HAB2.out]; rfl), hide (by rw [HBA2.out]; rfl)⟩
                    case measure => simp [intOf]; omega
                  | true =>
                    go_quiet (fail)
                    go_wp2_with fail
                    go_roundw
                    case rel => exact ⟨i + 1, q + nq, _, _, by omega, rfl, rfl, by go_num, rfl, hide (by rw [HAB2.out]; rfl), hide (by rw [HBA2.out]; rfl)⟩
                    case measure => simp [intOf]; omega
            | true =>
              cases d4 with
              | false =>
                go_quiet (fail)
                rw [World.drewN_drewN]
                generalize q + nq = q at *
                go_upto_region 12 with fail
                cases ba with
                | true =>
                  go_quiet (fail)
                  go_wp2_with fail
                  go_roundw
                  case rel => exact ⟨i + 1, q + nq, _, _, by omega, rfl, rfl, by go_num, rfl, hide (by rw [HAB2.out]; rfl), hide (by rw [HBA2.out]; rfl)⟩
                  case measure => simp [intOf]; omega
                | false =>
                  cases d2 with
                  | false =>
                    go_quiet (fail)
                    go_wp2_with fail
                    go_roundw
                    case rel => exact ⟨i + 1, q + nq, _, _, by omega, rfl, rfl, by go_num, rfl, hide (by rw [HAB2.out]; rfl), hide (by rw [HBA2.out]; rfl)⟩
                    case measure => simp [intOf]; omega
                  | true =>
                    cases d3 with
                    | false =>
                      go_quiet (fail)
                      go_wp2_with fail
                      go_roundw
                      case rel => exact ⟨i + 1, q + nq, _, _, by omega, rfl, rfl, by go_num, rfl, hide (by rw [HAB2.out]; rfl), hide (by rw [HBA2.out]; rfl)⟩
                      case measure => simp [intOf]; omega
                    | true =>
                      go_quiet (fail)
                      go_wp2_with fail
                      go_roundw
                      case rel => exact ⟨i + 1, q + nq, _, _, by omega, rfl, rfl, by go_num, rfl, hide (by rw [HAB2.out]; rfl), hide (by rw [HBA2.out]; rfl)⟩
                      case measure => simp [intOf]; omega
              | true =>
                go_quiet (fail)
                rw [World.drewN_drewN]
                generalize q + nq = q at *
                go_upto_region 12 with fail
                cases ba with
                | true =>
                  go_quiet (fail)
                  go_wp2_with fail
                  go_roundw
                  case rel => exact ⟨i + 1, q + nq, _, _, by omega, rfl, rfl, by go_num, rfl, hide (by rw [HAB2.out]; rfl), hide (by rw [HBA2.out]; rfl)⟩
                  case measure => simp [intOf]; omega
                | false =>
                  cases d2 with
                  | false =>
                    go_quiet (fail)
                    go_wp2_with fail
                    go_roundw
                    case rel => exact ⟨i + 1, q + nq, _, _, by omega, rfl, rfl, by go_num, rfl, hide (by rw [HAB2.out]; rfl), hide (by rw [HBA2.out]; rfl)⟩
                    case measure => simp [intOf]; omega
                  | true =>
                    cases d3 with
                    | false =>
                      go_quiet (fail)
                      go_wp2_with fail
                      go_roundw
                      case rel => exact ⟨i + 1, q + nq, _, _, by omega, rfl, rfl, by go_num, rfl, hide (by rw [HAB2.out]; rfl), hide (by rw [HBA2.out]; rfl)⟩
                      case measure => simp [intOf]; omega
                    | true =>
                      go_quiet (fail)
                      go_wp2_with fail
                      go_roundw
                      case rel => exact ⟨i + 1, q + nq, _, _, by omega, rfl, rfl, by go_num, rfl, hide (by rw [HAB2.out]; rfl), hide (by rw [HBA2.out]; rfl)⟩
                      case measure => simp [intOf]; omega
        · have HT : S.excepts.take i = S.excepts := List.take_of_length_le (by rw [HNX.out]; omega)
          have hF := HFIN.out
          rw [HT] at HAB HBA
          rw [← HAB.out, ← HBA.out] at hF
          clear HFIN HAB HBA HT
          have HBQ : Hid (∀ n, Below w.heap.size w (w3.drewN n)) := hide fun n => HB3.out.trans ((below_drewN w3 n).mono HB3.out.size)
          go_upto_region 13 with fail
          cases vx <;> cases vy <;> cases ab <;> cases ba <;> first
            | exact absurd hF (by decide)
            | (clear hF
               go_wp2_with fail
               go_ret
               exact ⟨rfl, HBQ.out _⟩)
    · obtain ⟨rfl, rfl⟩ := HE.out (.inr he2)
      have hcb : (ey == 0) = false := by simpa using he2
      go_wp2_with fail
      refine (num13_any _ _).mono ?_
      rintro _ _ ⟨rfl, rfl⟩
      go_wp2_with fail
      refine (num13_any _ _).mono ?_
      rintro _ _ ⟨rfl, rfl⟩
      go_wp2_with fail
      go_ret
      exact ⟨rfl, HB3.out⟩
  · obtain ⟨rfl, rfl⟩ := HE.out (.inl he1)
    have hcb : (ex == 0) = false := by simpa using he1
    go_wp2_with fail
    refine (num13_any _ _).mono ?_
    rintro _ _ ⟨rfl, rfl⟩
    go_wp2_with fail
    go_ret
    exact ⟨rfl, HB3.out⟩
end Go.Proofs.YtbdlgglbcaoakaaGreat
