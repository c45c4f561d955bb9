/- declared, weigh, prevails. -/
import Derived.Test.YtbdlgglbcaoakaaGreatJdM
namespace Go.Proofs.YtbdlgglbcaoakaaGreat
open Go.RowKit Go.Shelf Go.Maps Go.WideMaps

/-- The eleven cells of a schema, of which three are looked at. -/
abbrev r11 (n s : Bytes) (d : Int) (v3 v4 v5 v6 v7 v8 v9 v10 : Value) : Array Value := #[.string ⟨n.toArray⟩, .string ⟨s.toArray⟩, .int .i64 d, v3, v4, v5, v6, v7, v8, v9, v10]
theorem cells11 {w : World} {q T : Nat} {a0 a1 a2 a3 a4 a5 a6 a7 a8 a9 a10 : Value} (h : w.heap[q]? = some (.cells #[a0, a1, a2, a3, a4, a5, a6, a7, a8, a9, a10] T (0, 0))) : w.cell? ⟨q, 0, none⟩ = some a0 ∧ w.cell? ⟨q, 1, none⟩ = some a1 ∧ w.cell? ⟨q, 2, none⟩ = some a2 ∧ w.cell? ⟨q, 3, none⟩ = some a3 ∧ w.cell? ⟨q, 4, none⟩ = some a4 ∧ w.cell? ⟨q, 5, none⟩ = some a5 ∧ w.cell? ⟨q, 6, none⟩ = some a6 ∧ w.cell? ⟨q, 7, none⟩ = some a7 ∧ w.cell? ⟨q, 8, none⟩ = some a8 ∧ w.cell? ⟨q, 9, none⟩ = some a9 ∧ w.cell? ⟨q, 10, none⟩ = some a10 :=
  ⟨cell_of_row _ _ 0 _ _ _ h, cell_of_row _ _ 1 _ _ _ h, cell_of_row _ _ 2 _ _ _ h, cell_of_row _ _ 3 _ _ _ h, cell_of_row _ _ 4 _ _ _ h, cell_of_row _ _ 5 _ _ _ h, cell_of_row _ _ 6 _ _ _ h, cell_of_row _ _ 7 _ _ _ h, cell_of_row _ _ 8 _ _ _ h, cell_of_row _ _ 9 _ _ _ h, cell_of_row _ _ 10 _ _ _ h⟩
section
variable {J bR bE bA nR nE : Nat} {rv : Value} {src : List (Bytes × Int)} {exc : List (Bytes × Bytes)} {w : World}
variable {n1 s1 n2 s2 : Bytes} {d1 d2 : Int} {v3 v4 v5 v6 v7 v8 v9 v10 u3 u4 u5 u6 u7 u8 u9 u10 : Value}
theorem two_rules (w : World) (o1 o2 : Obj) : Below w.heap.size w ((w.alloc o1).alloc o2) ∧ ((w.alloc o1).alloc o2).heap[w.heap.size]? = some o1 ∧ ((w.alloc o1).alloc o2).heap[w.heap.size + 1]? = some o2 := by
  have hs1 : (w.alloc o1).heap.size = w.heap.size + 1 := by simp
  have hA1 : Below w.heap.size w (w.alloc o1) := (Below.refl _ w).alloc (Nat.le_refl _) _
  refine ⟨hA1.alloc (by omega) _, (Below.heap_alloc _ o2 _ (by omega)).trans (heap_alloc_new w o1), ?_⟩
  have := heap_alloc_new (w.alloc o1) o2
  rw [hs1] at this
  exact this
set_option maxRecDepth 100000 in
set_option maxHeartbeats 6400000 in
theorem declared_any (h : Jd J bR bE bA nR nE rv src exc w) (h1 : n1.length ≤ maxLen) (h2 : n2.length ≤ maxLen) :
    Calls Tryz.prog 31 #[.pointer (some ⟨J, 0, none⟩), .agg (r11 n1 s1 d1 v3 v4 v5 v6 v7 v8 v9 v10), .agg (r11 n2 s2 d2 u3 u4 u5 u6 u7 u8 u9 u10)] w fun e w' => e = .returned (.bool (exB exc (n1, n2))) ∧ Below w.heap.size w w' := by
  obtain ⟨hA, hb1, hb2⟩ := two_rules w (.cells (r11 n1 s1 d1 v3 v4 v5 v6 v7 v8 v9 v10) 49) (.cells (r11 n2 s2 d2 u3 u4 u5 u6 u7 u8 u9 u10) 49)
  have hj := h.go hA
  have HA := hide hA
  have y0 : ((w.alloc (.cells (r11 n1 s1 d1 v3 v4 v5 v6 v7 v8 v9 v10) 49)).alloc (.cells (r11 n2 s2 d2 u3 u4 u5 u6 u7 u8 u9 u10) 49)).cell? ⟨w.heap.size, 0, none⟩ = some (.string ⟨n1.toArray⟩) := cell_of_row _ _ 0 _ _ _ hb1
  have z0 : ((w.alloc (.cells (r11 n1 s1 d1 v3 v4 v5 v6 v7 v8 v9 v10) 49)).alloc (.cells (r11 n2 s2 d2 u3 u4 u5 u6 u7 u8 u9 u10) 49)).cell? ⟨w.heap.size + 1, 0, none⟩ = some (.string ⟨n2.toArray⟩) := cell_of_row _ _ 0 _ _ _ hb2
  have HJ := hide hj
  clear h hA hb1 hb2 hj
  go_enter Tryz.func31, Tryz.ntmps31
  go_upto_region 1 with fail
  generalize (w.alloc (.cells (r11 n1 s1 d1 v3 v4 v5 v6 v7 v8 v9 v10) 49)).alloc (.cells (r11 n2 s2 d2 u3 u4 u5 u6 u7 u8 u9 u10) 49) = w2 at *
  have j2 : w2.cell? ⟨J, 2, none⟩ = some (.map (some bE)) := cell_of_row _ _ 2 _ _ _ HJ.out.bx
  have hB2 : Below w2.heap.size w2 (w2.alloc (.cells #[] 74)) := (Below.refl _ w2).alloc (Nat.le_refl _) _
  have e1 := look_X (w := w2.drew) HJ.out.mE (n1, n2) h1 h2
  have e2 := look_X (w := (w2.alloc (.cells #[] 74)).drew) (HJ.out.go hB2).mE (n1, n2) h1 h2
  unfold str at e1 e2
  simp only at e1 e2
  obtain ⟨r, hr⟩ : ∃ r, exB exc (n1, n2) = r := ⟨_, rfl⟩
  rw [hr] at e1 e2
  have HR := hide hr
  clear hr
  have y0A := (World.cell?_of_block (hB2.block w.heap.size (World.block_lt_of_cell? w2 _ y0))).trans y0
  have z0A := (World.cell?_of_block (hB2.block (w.heap.size + 1) (World.block_lt_of_cell? w2 _ z0))).trans z0
  have j2A := (World.cell?_of_block (hB2.block J (World.block_lt_of_cell? w2 _ j2))).trans j2
  have HB2 := hide hB2
  clear hB2
  go_region
  all_goals
    go_wp2_with fail
    go_ret
    exact ⟨by rw [HR.out]; rfl, HA.out.trans ((HB2.out.drew).mono HA.out.size)⟩
set_option maxRecDepth 100000 in
set_option maxHeartbeats 6400000 in
theorem weigh_any (h : Jd J bR bE bA nR nE rv src exc w) (h1 : n1.length ≤ maxLen) (h2 : n2.length ≤ maxLen) (k1 : s1.length ≤ maxLen) (k2 : s2.length ≤ maxLen) :
    Calls Tryz.prog 20 #[.pointer (some ⟨J, 0, none⟩), .agg (r11 n1 s1 d1 v3 v4 v5 v6 v7 v8 v9 v10), .agg (r11 n2 s2 d2 u3 u4 u5 u6 u7 u8 u9 u10)] w fun e w' => e = .returned (.int .i64 (wgM (exB exc (n1, n2)) (exB exc (n2, n1)) (rkV src s1) (rkV src s2) d1 d2)) ∧ Below w.heap.size w w' := by
  obtain ⟨hA, hb1, hb2⟩ := two_rules w (.cells (r11 n1 s1 d1 v3 v4 v5 v6 v7 v8 v9 v10) 49) (.cells (r11 n2 s2 d2 u3 u4 u5 u6 u7 u8 u9 u10) 49)
  have HJ := hide (h.go hA)
  have HA := hide hA
  have HX1 := hide hb1
  have HX2 := hide hb2
  have j1 : ((w.alloc (.cells (r11 n1 s1 d1 v3 v4 v5 v6 v7 v8 v9 v10) 49)).alloc (.cells (r11 n2 s2 d2 u3 u4 u5 u6 u7 u8 u9 u10) 49)).cell? ⟨J, 1, none⟩ = some (.map (some bR)) := cell_of_row _ _ 1 _ _ _ HJ.out.bx
  have y1 : ((w.alloc (.cells (r11 n1 s1 d1 v3 v4 v5 v6 v7 v8 v9 v10) 49)).alloc (.cells (r11 n2 s2 d2 u3 u4 u5 u6 u7 u8 u9 u10) 49)).cell? ⟨w.heap.size, 1, none⟩ = some (.string ⟨s1.toArray⟩) := cell_of_row _ _ 1 _ _ _ hb1
  have z1 : ((w.alloc (.cells (r11 n1 s1 d1 v3 v4 v5 v6 v7 v8 v9 v10) 49)).alloc (.cells (r11 n2 s2 d2 u3 u4 u5 u6 u7 u8 u9 u10) 49)).cell? ⟨w.heap.size + 1, 1, none⟩ = some (.string ⟨s2.toArray⟩) := cell_of_row _ _ 1 _ _ _ hb2
  clear h hA hb1 hb2
  go_enter Tryz.func20, Tryz.ntmps20
  go_upto_region 1 with fail
  generalize (w.alloc (.cells (r11 n1 s1 d1 v3 v4 v5 v6 v7 v8 v9 v10) 49)).alloc (.cells (r11 n2 s2 d2 u3 u4 u5 u6 u7 u8 u9 u10) 49) = w2 at *
  have e1 := fun q => look_R (w := w2.drewN q) HJ.out.mR s1 k1
  have e2 := fun q => look_R (w := w2.drewN q) HJ.out.mR s2 k2
  obtain ⟨r1, hr1⟩ : ∃ r, rkV src s1 = r := ⟨_, rfl⟩
  obtain ⟨r2, hr2⟩ : ∃ r, rkV src s2 = r := ⟨_, rfl⟩
  rw [hr1] at e1
  rw [hr2] at e2
  have HR1 := hide hr1
  have HR2 := hide hr2
  clear hr1 hr2
  go_quiet (fail)
  have HJ3 := hide (HJ.out.go (below_drewN w2 nq))
  have HA3 := hide (HA.out.trans ((below_drewN w2 nq).mono HA.out.size))
  have HX13 : Hid ((w2.drewN nq).heap[w.heap.size]? = _) := hide HX1.out
  have HX23 : Hid ((w2.drewN nq).heap[w.heap.size + 1]? = _) := hide HX2.out
  clear HJ HA HX1 HX2 j1 y1 z1 e1 e2
  generalize w2.drewN nq = w3 at *
  obtain ⟨p0, p1, p2, p3, p4, p5, p6, p7, p8, p9, p10⟩ := cells11 HX13.out
  obtain ⟨q0, q1, q2, q3, q4, q5, q6, q7, q8, q9, q10⟩ := cells11 HX23.out
  have C1 := hide (declared_any (n1 := n1) (s1 := s1) (d1 := d1) (v3 := v3) (v4 := v4) (v5 := v5) (v6 := v6) (v7 := v7) (v8 := v8) (v9 := v9) (v10 := v10) (n2 := n2) (s2 := s2) (d2 := d2) (u3 := u3) (u4 := u4) (u5 := u5) (u6 := u6) (u7 := u7) (u8 := u8) (u9 := u9) (u10 := u10) HJ3.out h1 h2)
  cases hab : exB exc (n1, n2) with
  | true =>
    rw [hab] at C1
    have HV : Hid (wgM true (exB exc (n2, n1)) (rkV src s1) (rkV src s2) d1 d2 = 1) := hide rfl
    go_wp2_with (go_at_call 31; refine C1.out.mono ?_; rintro e w4 ⟨rfl, hb4⟩; have HB4 := hide hb4; clear hb4)
    go_ret
    exact ⟨by rw [hab, HV.out]; rfl, HA3.out.trans (HB4.out.mono HA3.out.size)⟩
  | false =>
    rw [hab] at C1
    go_upto_region 4 with (go_at_call 31; refine C1.out.mono ?_; rintro e w4 ⟨rfl, hb4⟩; have HB4 := hide hb4; clear hb4)
    have HJ4 := hide (HJ3.out.go HB4.out)
    have HA4 := hide (HA3.out.trans (HB4.out.mono HA3.out.size))
    have HX14 := hide ((HB4.out.block _ (loc_lt HX13.out)).trans HX13.out)
    have HX24 := hide ((HB4.out.block _ (loc_lt HX23.out)).trans HX23.out)
    clear p0 q0 p1 q1 p2 q2 p3 q3 p4 q4 p5 q5 p6 q6 p7 q7 p8 q8 p9 q9 p10 q10 C1 HJ3 HA3 HX13 HX23 HB4
    obtain ⟨p0, p1, p2, p3, p4, p5, p6, p7, p8, p9, p10⟩ := cells11 HX14.out
    obtain ⟨q0, q1, q2, q3, q4, q5, q6, q7, q8, q9, q10⟩ := cells11 HX24.out
    have C2 := hide (declared_any (n1 := n2) (s1 := s2) (d1 := d2) (v3 := u3) (v4 := u4) (v5 := u5) (v6 := u6) (v7 := u7) (v8 := u8) (v9 := u9) (v10 := u10) (n2 := n1) (s2 := s1) (d2 := d1) (u3 := v3) (u4 := v4) (u5 := v5) (u6 := v6) (u7 := v7) (u8 := v8) (u9 := v9) (u10 := v10) HJ4.out h2 h1)
    cases hba : exB exc (n2, n1) with
    | true =>
      rw [hba] at C2
      have HV : Hid (wgM (exB exc (n1, n2)) (exB exc (n2, n1)) (rkV src s1) (rkV src s2) d1 d2 = 0) := hide (by rw [hab, hba]; rfl)
      clear hab hba
      go_wp2_with (go_at_call 31; refine C2.out.mono ?_; rintro e w5 ⟨rfl, hb5⟩; have HB5 := hide hb5; clear hb5)
      go_ret
      exact ⟨by rw [HV.out]; rfl, HA4.out.trans (HB5.out.mono HA4.out.size)⟩
    | false =>
      rw [hba] at C2
      have HV : Hid (wgM (exB exc (n1, n2)) (exB exc (n2, n1)) (rkV src s1) (rkV src s2) d1 d2 = if r2 < r1 then 2 else if r1 = r2 ∧ d2 < d1 then 3 else 0) := hide (by rw [hab, hba, HR1.out, HR2.out]; rfl)
      clear hab hba
      go_upto_region 6 with (go_at_call 31; refine C2.out.mono ?_; rintro e w5 ⟨rfl, hb5⟩; have HB5 := hide hb5; clear hb5)
      have HA5 := hide (HA4.out.trans (HB5.out.mono HA4.out.size))
      have HX15 := hide ((HB5.out.block _ (loc_lt HX14.out)).trans HX14.out)
      have HX25 := hide ((HB5.out.block _ (loc_lt HX24.out)).trans HX24.out)
      clear p0 q0 p1 q1 p2 q2 p3 q3 p4 q4 p5 q5 p6 q6 p7 q7 p8 q8 p9 q9 p10 q10 C2 HJ4 HX14 HX24 HA4 HB5
      have p2 : w5.cell? ⟨w.heap.size, 2, none⟩ = some (.int .i64 d1) := cell_of_row _ _ 2 _ _ _ HX15.out
      have q2 : w5.cell? ⟨w.heap.size + 1, 2, none⟩ = some (.int .i64 d2) := cell_of_row _ _ 2 _ _ _ HX25.out
      by_cases hgt : r2 < r1
      · rw [if_pos hgt] at HV
        go_wp2_with fail
        go_ret
        exact ⟨by rw [HV.out]; rfl, HA5.out⟩
      · rw [if_neg hgt] at HV
        by_cases heq : r1 = r2
        · subst heq
          by_cases hdd : d2 < d1
          · rw [if_pos ⟨rfl, hdd⟩] at HV
            go_wp2_with fail
            go_ret
            exact ⟨by rw [HV.out]; rfl, HA5.out⟩
          · rw [if_neg (fun h => hdd h.2)] at HV
            go_wp2_with fail
            go_ret
            exact ⟨by rw [HV.out]; rfl, HA5.out⟩
        · rw [if_neg (fun h => heq h.1)] at HV
          have hbb : (r1 == r2) = false := beq_eq_false_iff_ne.2 heq
          clear heq
          go_wp2_with fail
          go_ret
          exact ⟨by rw [HV.out]; rfl, HA5.out⟩
end
end Go.Proofs.YtbdlgglbcaoakaaGreat
/- prevails, of a judge that was asked nothing yet. -/
namespace Go.Proofs.YtbdlgglbcaoakaaGreat
open Go.RowKit Go.Shelf Go.Maps Go.WideMaps

theorem lawP : Keyed Tryz.prog 76 := Keyed.of_law (deep_law_laid laidOut8 (m := 3) (by omega) (of_decide_eq_true (by kernel_rfl)) (by kernel_rfl) (by kernel_rfl))
theorem keyTypeP : Tryz.prog.keyType 76 = true := by kernel_rfl
theorem cellsP : Tryz.prog.cellsOf 76 = 2 := by kernel_rfl
theorem keyP_mk (a b : Int) (ha : (Lit.int .i64 a).wf = true) (hb : (Lit.int .i64 b).wf = true) : ∃ kl, keyOf Tryz.prog 76 (.agg #[.int .i64 a, .int .i64 b]) = some kl := by
  refine ⟨.string (keyBytes [.int .i64 a, .int .i64 b]), ?_⟩
  unfold keyOf
  simp only [Tryz.underlying76]
  rw [if_pos (by rw [keyTypeP]; simp [Value.formed, Tryz.underlying76, cellsP])]
  have hm : ∃ m, Tryz.prog.types.size + 1 = m + 1 + 1 := ⟨Tryz.prog.types.size - 1, by have : 0 < Tryz.prog.types.size := of_decide_eq_true (by kernel_rfl); omega⟩
  obtain ⟨m, hm⟩ := hm
  rw [hm]
  have hl : ∀ s : Int, (Lit.int .i64 s).wf = true → Tryz.prog.keyLits (m + 1) 3 [.int .i64 s] = some [.int .i64 s] := by
    intro s hs
    unfold Program.keyLits
    simp only [Tryz.underlying3]
    simp [hs]
  unfold Program.keyLits
  simp only [Tryz.underlying76, Value.cells]
  rw [if_pos ⟨by rw [cellsP]; rfl, by first | kernel_rfl | simp⟩]
  have e1 : Tryz.prog.cellsOf 3 = 1 := by kernel_rfl
  simp [List.mapM_cons, List.mapM_nil, e1, hl _ ha, hl _ hb]
theorem look_A {w : World} {b : Nat} (hm : w.ownsMap (H := Unit) Tryz.prog 76 (plainElem Tryz.prog 77) b 0 (.map [])) {key : Value} {kl : Lit} (hk : keyOf Tryz.prog 76 key = some kl) : (Instr.lookup 69 (.map (some b)) key true).run Tryz.prog w = .ok (.tuple #[.int .i64 0, .bool false]) w := by
  have hz : (zeroValue 77).run Tryz.prog w = .ok (.int .i64 0) w := by kernel_rfl
  obtain ⟨v, ps, hrun, hv⟩ := hm.look_ok lawP Tryz.underlying69 hz (zd := .lit (.int .i64 0)) (zp := []) (plainElem_int Tryz.underlying77 (by decide)) hk
  obtain ⟨c, rfl, hc, hwc⟩ := plainElem_int_inv Tryz.underlying77 hv
  have e1 : Maps.has (DataW.map [] : DataW Unit) kl = false := rfl
  have e2 : (DataW.map [] : DataW Unit).atKey kl (.lit (.int .i64 0)) = .lit (.int .i64 0) := rfl
  rw [e1] at hrun
  rw [e2] at hc
  simp only [Prod.mk.injEq, DataW.lit.injEq, Lit.int.injEq, true_and] at hc
  rw [← hc.1] at hrun
  exact hrun
section
variable {J bR bE bA nR nE : Nat} {S : StatM} {N : Nat} {w w0 : World} {ra : Option Addr} {rc a b : Nat}
set_option maxRecDepth 100000 in
set_option maxHeartbeats 12800000 in
theorem prevails_any (h : Jd J bR bE bA nR nE (.slice ra S.rules.length rc) S.sources S.excepts w) (hr : RR N 11 (cRule N) w0 S.rules (.slice ra S.rules.length rc)) (hb : Below N w0 w) (ha : a < S.rules.length) (hbb : b < S.rules.length) (hl : S.rules.length ≤ 140737488351232) :
    Calls Tryz.prog 12 #[.pointer (some ⟨J, 0, none⟩), .int .i64 a, .int .i64 b] w fun e w' => e = .returned (.bool (S.weighM a b != 0)) ∧ Fr (fun k => k = bA) w w' := by
  obtain ⟨x, hx⟩ : ∃ x, S.rules[a]? = some x := ⟨_, List.getElem?_eq_getElem ha⟩
  obtain ⟨y, hy⟩ : ∃ y, S.rules[b]? = some y := ⟨_, List.getElem?_eq_getElem hbb⟩
  obtain ⟨kl, hkl⟩ := keyP_mk a b (wf64 (by omega)) (wf64 (by omega))
  have hrk : RR N 11 (cRule N) w S.rules (.slice ra S.rules.length rc) := RR.keep hr (fun g hg => hb.block g hg) fun _ _ h => h.keep fun g hg => hb.block g hg
  obtain ⟨g1, o1, ba1, bc1, ka1, kc1, rfl, hg1, p0, p1, p2, p3, p4, p5, p6, p7, p8, p9, p10, hn1, hs1, _, _, _⟩ := at_R hrk hx
  obtain ⟨g2, o2, ba2, bc2, ka2, kc2, e2, hg2, q0, q1, q2, q3, q4, q5, q6, q7, q8, q9, q10, hn2, hs2, _, _, _⟩ := at_R hrk hy
  simp only [Option.some.injEq, Addr.mk.injEq, and_true] at e2
  obtain ⟨rfl, rfl⟩ := e2
  have HW : Hid (S.weighM a b = wgM (exB S.excepts (x.name, y.name)) (exB S.excepts (y.name, x.name)) (rkV S.sources x.source) (rkV S.sources y.source) x.day y.day) := hide (by unfold StatM.weighM; rw [List.getD_eq_getElem?_getD, hx, List.getD_eq_getElem?_getD, hy]; rfl)
  have hA : Below w.heap.size w (w.alloc (.cells #[.int .i64 a, .int .i64 b] 76)) := (Below.refl _ w).alloc (Nat.le_refl _) _
  have HJ := hide (h.go hA)
  have HA := hide hA
  have hbx := heap_alloc_new w (.cells #[.int .i64 a, .int .i64 b] 76)
  have y0 : (w.alloc (.cells #[.int .i64 a, .int .i64 b] 76)).cell? ⟨w.heap.size, 0, none⟩ = some (.int .i64 a) := cell_of_row _ _ 0 _ _ _ hbx
  have y1 : (w.alloc (.cells #[.int .i64 a, .int .i64 b] 76)).cell? ⟨w.heap.size, 1, none⟩ = some (.int .i64 b) := cell_of_row _ _ 1 _ _ _ hbx
  have hgl : g1 < w.heap.size := World.block_lt_of_cell? w _ p0
  replace p0 := (World.cell?_of_block (hA.block g1 hgl)).trans p0
  replace q0 := (World.cell?_of_block (hA.block g1 hgl)).trans q0
  replace p1 := (World.cell?_of_block (hA.block g1 hgl)).trans p1
  replace q1 := (World.cell?_of_block (hA.block g1 hgl)).trans q1
  replace p2 := (World.cell?_of_block (hA.block g1 hgl)).trans p2
  replace q2 := (World.cell?_of_block (hA.block g1 hgl)).trans q2
  replace p3 := (World.cell?_of_block (hA.block g1 hgl)).trans p3
  replace q3 := (World.cell?_of_block (hA.block g1 hgl)).trans q3
  replace p4 := (World.cell?_of_block (hA.block g1 hgl)).trans p4
  replace q4 := (World.cell?_of_block (hA.block g1 hgl)).trans q4
  replace p5 := (World.cell?_of_block (hA.block g1 hgl)).trans p5
  replace q5 := (World.cell?_of_block (hA.block g1 hgl)).trans q5
  replace p6 := (World.cell?_of_block (hA.block g1 hgl)).trans p6
  replace q6 := (World.cell?_of_block (hA.block g1 hgl)).trans q6
  replace p7 := (World.cell?_of_block (hA.block g1 hgl)).trans p7
  replace q7 := (World.cell?_of_block (hA.block g1 hgl)).trans q7
  replace p8 := (World.cell?_of_block (hA.block g1 hgl)).trans p8
  replace q8 := (World.cell?_of_block (hA.block g1 hgl)).trans q8
  replace p9 := (World.cell?_of_block (hA.block g1 hgl)).trans p9
  replace q9 := (World.cell?_of_block (hA.block g1 hgl)).trans q9
  replace p10 := (World.cell?_of_block (hA.block g1 hgl)).trans p10
  replace q10 := (World.cell?_of_block (hA.block g1 hgl)).trans q10
  unfold str at *
  obtain ⟨n, hn⟩ : ∃ n, S.rules.length = n := ⟨_, rfl⟩
  rw [hn] at ha hbb hl HJ
  have HSZ := hide hA.size
  clear h hr hb hrk hx hy hbx hn hA
  go_enter Tryz.func12, Tryz.ntmps12
  go_upto_region 2 with fail
  generalize w.alloc (.cells #[.int .i64 a, .int .i64 b] 76) = w2 at *
  have j0 : w2.cell? ⟨J, 0, none⟩ = some (.slice (some ⟨g1, o1, none⟩) n rc) := cell_of_row _ _ 0 _ _ _ HJ.out.bx
  have j3 : w2.cell? ⟨J, 3, none⟩ = some (.map (some bA)) := cell_of_row _ _ 3 _ _ _ HJ.out.bx
  have e1 := fun q => look_A (w := w2.drewN q) HJ.out.mA hkl
  go_quiet (fail)
  go_upto_region 4 with fail
  replace p0 : (w2.drewN nq).cell? ⟨g1, o1 + a * 11, none⟩ = some (.string ⟨x.name.toArray⟩) := p0
  replace q0 : (w2.drewN nq).cell? ⟨g1, o1 + b * 11, none⟩ = some (.string ⟨y.name.toArray⟩) := q0
  replace p1 : (w2.drewN nq).cell? ⟨g1, o1 + a * 11 + 1, none⟩ = some (.string ⟨x.source.toArray⟩) := p1
  replace q1 : (w2.drewN nq).cell? ⟨g1, o1 + b * 11 + 1, none⟩ = some (.string ⟨y.source.toArray⟩) := q1
  replace p2 : (w2.drewN nq).cell? ⟨g1, o1 + a * 11 + 2, none⟩ = some (.int .i64 x.day) := p2
  replace q2 : (w2.drewN nq).cell? ⟨g1, o1 + b * 11 + 2, none⟩ = some (.int .i64 y.day) := q2
  replace p3 : (w2.drewN nq).cell? ⟨g1, o1 + a * 11 + 3, none⟩ = some (.int .i64 x.till) := p3
  replace q3 : (w2.drewN nq).cell? ⟨g1, o1 + b * 11 + 3, none⟩ = some (.int .i64 y.till) := q3
  replace p4 : (w2.drewN nq).cell? ⟨g1, o1 + a * 11 + 4, none⟩ = some (.slice ba1 x.body.length bc1) := p4
  replace q4 : (w2.drewN nq).cell? ⟨g1, o1 + b * 11 + 4, none⟩ = some (.slice ba2 y.body.length bc2) := q4
  replace p5 : (w2.drewN nq).cell? ⟨g1, o1 + a * 11 + 5, none⟩ = some (.int .i64 x.arrow) := p5
  replace q5 : (w2.drewN nq).cell? ⟨g1, o1 + b * 11 + 5, none⟩ = some (.int .i64 y.arrow) := q5
  replace p6 : (w2.drewN nq).cell? ⟨g1, o1 + a * 11 + 6, none⟩ = some (.bool x.head.neg) := p6
  replace q6 : (w2.drewN nq).cell? ⟨g1, o1 + b * 11 + 6, none⟩ = some (.bool y.head.neg) := q6
  replace p7 : (w2.drewN nq).cell? ⟨g1, o1 + a * 11 + 7, none⟩ = some (.string ⟨x.head.pred.toArray⟩) := p7
  replace q7 : (w2.drewN nq).cell? ⟨g1, o1 + b * 11 + 7, none⟩ = some (.string ⟨y.head.pred.toArray⟩) := q7
  replace p8 : (w2.drewN nq).cell? ⟨g1, o1 + a * 11 + 8, none⟩ = some (.slice ka1 x.head.args.length kc1) := p8
  replace q8 : (w2.drewN nq).cell? ⟨g1, o1 + b * 11 + 8, none⟩ = some (.slice ka2 y.head.args.length kc2) := q8
  replace p9 : (w2.drewN nq).cell? ⟨g1, o1 + a * 11 + 9, none⟩ = some (.bool x.head.hasValue) := p9
  replace q9 : (w2.drewN nq).cell? ⟨g1, o1 + b * 11 + 9, none⟩ = some (.bool y.head.hasValue) := q9
  replace p10 : (w2.drewN nq).cell? ⟨g1, o1 + a * 11 + 10, none⟩ = some (.int .i64 x.head.value) := p10
  replace q10 : (w2.drewN nq).cell? ⟨g1, o1 + b * 11 + 10, none⟩ = some (.int .i64 y.head.value) := q10
  replace j0 : (w2.drewN nq).cell? ⟨J, 0, none⟩ = some (.slice (some ⟨g1, o1, none⟩) n rc) := j0
  replace HJ : Hid (Jd J bR bE bA nR nE (.slice (some ⟨g1, o1, none⟩) n rc) S.sources S.excepts (w2.drewN nq)) := hide (HJ.out.go (below_drewN w2 nq))
  have HA3 : Hid (Below w.heap.size w (w2.drewN nq)) := hide (HA.out.trans ((below_drewN w2 nq).mono HA.out.size))
  replace y0 : (w2.drewN nq).cell? ⟨w.heap.size, 0, none⟩ = some (.int .i64 a) := y0
  replace y1 : (w2.drewN nq).cell? ⟨w.heap.size, 1, none⟩ = some (.int .i64 b) := y1
  clear e1 HA HSZ j3
  generalize w2.drewN nq = w3 at *
  have CW : Hid (∀ X, Below w3.heap.size w3 X → Calls Tryz.prog 20 #[.pointer (some ⟨J, 0, none⟩), .agg (r11 x.name x.source x.day (.int .i64 x.till) (.slice ba1 x.body.length bc1) (.int .i64 x.arrow) (.bool x.head.neg) (.string ⟨x.head.pred.toArray⟩) (.slice ka1 x.head.args.length kc1) (.bool x.head.hasValue) (.int .i64 x.head.value)), .agg (r11 y.name y.source y.day (.int .i64 y.till) (.slice ba2 y.body.length bc2) (.int .i64 y.arrow) (.bool y.head.neg) (.string ⟨y.head.pred.toArray⟩) (.slice ka2 y.head.args.length kc2) (.bool y.head.hasValue) (.int .i64 y.head.value))] X fun e w' => e = .returned (.int .i64 (S.weighM a b)) ∧ Below X.heap.size X w') := hide fun X hX => by
    rw [HW.out]
    exact weigh_any (HJ.out.go hX) hn1 hn2 hs1 hs2
  go_region_with (go_at_call 20; refine (CW.out _ ((Below.refl _ w3).drew)).mono ?_; rintro e w4 ⟨rfl, hb4⟩; have HB4 := hide hb4; clear hb4)
  all_goals (
    simp only [List.getElem_toArray, List.getElem_cons_zero, List.getElem_cons_succ]
    have HB4' : Hid (Below w3.heap.size w3 w4) := hide (((Below.refl _ w3).drew).trans HB4.out)
    have HJ4 := hide (HJ.out.go HB4'.out)
    have HA4 := hide (HA3.out.trans (HB4'.out.mono HA3.out.size))
    have HY : Hid (w.heap.size < w3.heap.size) := hide (World.block_lt_of_cell? w3 _ y0)
    replace y0 := (World.cell?_of_block (HB4'.out.block w.heap.size HY.out)).trans y0
    replace y1 := (World.cell?_of_block (HB4'.out.block w.heap.size HY.out)).trans y1
    have j3 : w4.cell? ⟨J, 3, none⟩ = some (.map (some bA)) := cell_of_row _ _ 3 _ _ _ HJ4.out.bx
    have HWF : Hid ((Lit.int .i64 (S.weighM a b)).wf = true) := hide (by
      rw [HW.out]
      unfold wgM
      split
      · decide
      · split
        · decide
        · split
          · decide
          · split <;> decide)
    clear p0 q0 p1 q1 p2 q2 p3 q3 p4 q4 p5 q5 p6 q6 p7 q7 p8 q8 p9 q9 p10 q10 CW j0 HB4 HB4' HJ HA3 HY
    obtain ⟨wv, hwv⟩ : ∃ wv, S.weighM a b = wv := ⟨_, rfl⟩
    have HV := hide hwv
    rw [hwv] at HWF ⊢
    clear hwv HW
    go_upto_region 5 with fail
    simp only [Act.put, List.setIfInBounds_toArray, List.set_cons_succ, List.set_cons_zero]
    refine region_last (by kernel_rfl) (by kernel_rfl) (by kernel_rfl) (by kernel_rfl) (by kernel_rfl) ?_
    dsimp only [List.dropLast, List.getLast, List.cons_append, List.nil_append]
    repeat (go_big_quiet_step (fail))
    refine wpQuiet_nil ?_
    rintro _ ⟨nq2, rfl⟩
    have HJ5 := hide (HJ4.out.go (below_drewN w4 nq2))
    have HA5 := hide (HA4.out.trans ((below_drewN w4 nq2).mono HA4.out.size))
    go_wp2_with (at_mapUpdate; go_must (refine wpList_mapUpdate_own _ rfl _ _ _ 69 rfl 76 77 lawP Tryz.underlying69 _ bA 0 _ rfl HJ5.out.mA (by unfold maxLen; omega) _ _ _ rfl rfl hkl _ [] (plainElem_int Tryz.underlying77 HWF.out) ?_); intro w6 hm6 hg6; have HG6 := hide hg6; clear hm6 hg6)
    go_ret
    refine ⟨?_, (Fr.of_below HA5.out).trans (.of_grown HG6.out fun k e => by cases e; rfl)⟩
    rw [HV.out]
    simp)
end
end Go.Proofs.YtbdlgglbcaoakaaGreat
