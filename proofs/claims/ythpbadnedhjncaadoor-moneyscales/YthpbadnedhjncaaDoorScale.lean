/- The document's Scale: it answers what scaleM says. -/
import Derived.Test.YthpbadnedhjncaaDoorScalePlain
import Derived.Deep.DeepCutAuto
import Derived.Deep.CutBlock
namespace Go.Proofs.YthpbadnedhjncaaDoor
open Go.RowKit

theorem infoI64 : (Tryd.prog.info? 2).map (fun i => (i.zero, i.size, i.bytes)) = some (some (.int .i64 0), 1, 8) := by kernel_rfl

/-- The product's digits, the highest first. -/
def digs (u v : Int) (k : Nat) : Int := if k = 0 then (v + u / 1000000000) / 1000000000 else if k = 1 then (v + u / 1000000000) % 1000000000 else u % 1000000000

theorem digs_bd (u v : Int) (hu0 : 0 ≤ u) (_hu1 : u ≤ 999999999 * 1000000000) (hv0 : 0 ≤ v) (hv1 : v ≤ 1000000 * 1000000000) (k : Nat) : 0 ≤ digs u v k ∧ digs u v k ≤ 1000000000 := by
  unfold digs; split
  · omega
  · split <;> omega

theorem digs_cells (w : World) (u v : Int) : ∀ k, k < 3 → (w.alloc (.cells #[.int .i64 ((v + u / 1000000000) / 1000000000), .int .i64 ((v + u / 1000000000) % 1000000000), .int .i64 (u % 1000000000)] 2)).cell? ⟨w.heap.size, k, none⟩ = some (.int .i64 (digs u v k)) := by
  intro k hk
  rw [cell_of_row _ _ _ _ _ _ (heap_alloc_new w _)]
  rcases (show k = 0 ∨ k = 1 ∨ k = 2 by omega) with rfl | rfl | rfl <;> rfl

theorem three_cells {W : World} {base cz : Nat} {z : Option Addr} {f : Nat → Int} (h : W.ownsRow base 2 1 (.slice z 3 cz) 3 (((List.range 3).map f).map (Value.int .i64))) :
    ∃ q0 q1 q2 g, z = some ⟨g, 0, none⟩ ∧ W.cell? ⟨g, 0, none⟩ = some (.int .i64 q0) ∧ W.cell? ⟨g, 1, none⟩ = some (.int .i64 q1) ∧ W.cell? ⟨g, 2, none⟩ = some (.int .i64 q2) ∧ Hid (q0 = f 0 ∧ q1 = f 1 ∧ q2 = f 2) := by
  rcases h.2 with ⟨_, h0⟩ | ⟨g, cap', cur, e, _⟩
  · omega
  · simp only [Value.slice.injEq, true_and] at e
    obtain ⟨rfl, rfl⟩ := e
    exact ⟨f 0, f 1, f 2, g, rfl, h.cellAt 0 (by omega), h.cellAt 1 (by omega), h.cellAt 2 (by omega), rfl, rfl, rfl⟩

theorem ldQ_bd (d : Int) (p : Nat → Int) (h : 1 ≤ d) (k : Nat) (hp : 0 ≤ p k ∧ p k ≤ 1000000000) : 0 ≤ ldQ d p k ∧ ldQ d p k ≤ 1000000000 := by
  have hb := ldRest_bd d p h k
  unfold ldQ
  constructor
  · exact Int.ediv_nonneg (by omega) (by omega)
  · exact Int.ediv_le_of_le_mul (by omega) (by omega)

theorem wrap_small (n : Int) (h : -9223372036854775808 ≤ n ∧ n ≤ 9223372036854775807) : IntKind.i64.wrap n = n := by
  simp only [IntKind.wrap, IntKind.bits, IntKind.signed]
  simp
  omega

/-- The ways through the roundings. -/
theorem up_ways (r : Int) (below : Bool) (n rv d : Int) (U : Bool) (hr1 : 1 ≤ r) (hr2 : r ≤ 6) (hU : U = upM r below n rv d) :
    (r ≤ 1 ∧ Hid (U = false)) ∨ (2 ≤ r ∧ r ≤ 2 ∧ 0 < rv ∧ Hid (U = true)) ∨ (2 ≤ r ∧ r ≤ 2 ∧ decide (0 < rv) = false ∧ Hid (U = false)) ∨
    (3 ≤ r ∧ r ≤ 3 ∧ 0 < rv ∧ Hid (U = below)) ∨ (3 ≤ r ∧ r ≤ 3 ∧ decide (0 < rv) = false ∧ Hid (U = false)) ∨ (4 ≤ r ∧ r ≤ 4 ∧ 0 < rv ∧ Hid (U = !below)) ∨ (4 ≤ r ∧ r ≤ 4 ∧ decide (0 < rv) = false ∧ Hid (U = false)) ∨
    (5 ≤ r ∧ r ≤ 5 ∧ d ≤ 2 * rv ∧ Hid (U = true)) ∨ (5 ≤ r ∧ r ≤ 5 ∧ decide (d ≤ 2 * rv) = false ∧ Hid (U = false)) ∨
    (6 ≤ r ∧ d < 2 * rv ∧ Hid (U = true)) ∨ (6 ≤ r ∧ decide (d < 2 * rv) = false ∧ (2 * rv == d) = true ∧ (n % 2 == 1) = true ∧ Hid (U = true)) ∨
    (6 ≤ r ∧ decide (d < 2 * rv) = false ∧ (2 * rv == d) = true ∧ (n % 2 == 1) = false ∧ Hid (U = false)) ∨ (6 ≤ r ∧ decide (d < 2 * rv) = false ∧ (2 * rv == d) = false ∧ Hid (U = false)) := by
  subst hU
  rcases (show r = 1 ∨ r = 2 ∨ r = 3 ∨ r = 4 ∨ r = 5 ∨ r = 6 by omega) with rfl | rfl | rfl | rfl | rfl | rfl
  · left; exact ⟨by omega, by simp [Hid, upM]⟩
  · by_cases h : 0 < rv
    · right; left; exact ⟨by omega, by omega, h, by simp [Hid, upM, h]⟩
    · right; right; left; exact ⟨by omega, by omega, decide_eq_false h, by simp [Hid, upM, h]⟩
  · by_cases h : 0 < rv
    · right; right; right; left; exact ⟨by omega, by omega, h, by simp [Hid, upM, h]⟩
    · right; right; right; right; left; exact ⟨by omega, by omega, decide_eq_false h, by simp [Hid, upM, h]⟩
  · by_cases h : 0 < rv
    · right; right; right; right; right; left; exact ⟨by omega, by omega, h, by simp [Hid, upM, h]⟩
    · right; right; right; right; right; right; left; exact ⟨by omega, by omega, decide_eq_false h, by simp [Hid, upM, h]⟩
  · by_cases h : d ≤ 2 * rv
    · right; right; right; right; right; right; right; left; exact ⟨by omega, by omega, h, by simp [Hid, upM, h]⟩
    · right; right; right; right; right; right; right; right; left; exact ⟨by omega, by omega, decide_eq_false h, by simp [Hid, upM, h]⟩
  · by_cases h : d < 2 * rv
    · right; right; right; right; right; right; right; right; right; left; exact ⟨by omega, h, by simp [Hid, upM, h]⟩
    · by_cases h2 : 2 * rv = d
      · by_cases h3 : n % 2 = 1
        · right; right; right; right; right; right; right; right; right; right; left; exact ⟨by omega, decide_eq_false h, by simp [h2], by simp [h3], by simp [Hid, upM, h2, h3]⟩
        · right; right; right; right; right; right; right; right; right; right; right; left; exact ⟨by omega, decide_eq_false h, by simp [h2], by simp [h3], by simp [Hid, upM, h2, h3]⟩
      · right; right; right; right; right; right; right; right; right; right; right; right; exact ⟨by omega, decide_eq_false h, by simp [h2], by simp [Hid, upM, h2, h]⟩

theorem tail_over (up below : Bool) (n : Int) (h : 1000000000000000 < n) : tailM up below n = (0, 22) := by
  unfold tailM
  have : 1000000000000000 < (if up then n + 1 else n) := by split <;> omega
  simp [this]

set_option maxRecDepth 100000 in
set_option maxHeartbeats 4000000 in
theorem refScale_in (m x d r : Int) (w : World) (hm : -1000000000000000 ≤ m ∧ m ≤ 1000000000000000) (hd : 1 ≤ d ∧ d ≤ 1000000000) (hx : -1000000000 ≤ x ∧ x ≤ 1000000000) (hr : 1 ≤ r ∧ r ≤ 6) (a b n rest : Int) (below : Bool) (hn : n = a * b / d) (hrest : rest = a * b % d)
    (ha : a = m.natAbs) (hb : b = x.natAbs) (hbel : below = decide ((m < 0 ∧ 0 < x) ∨ (0 < m ∧ x < 0))) :
    Calls Tryd.prog 26 #[.int .i64 m, .int .i64 x, .int .i64 d, .int .i64 r] w fun e w' => e = .returned (pairV (tailM (upM r below n rest d) below n)) ∧ Below w.heap.size w w' := by
  obtain ⟨i0, hi, hz0, hz1, hz2⟩ := info_parts infoI64
  have CM : Hid (∀ w, Calls Tryd.prog 36 #[.int .i64 m] w fun e w' => e = .returned (.bool true) ∧ w = w') := fun w => by
    have := may_any m w
    rw [may_mk hm] at this
    exact this.mono fun _ _ ⟨h1, h2⟩ => ⟨h1, h2.symm⟩
  obtain ⟨hm1, hm2⟩ := hm
  obtain ⟨hd1, hd2⟩ := hd
  obtain ⟨hx1, hx2⟩ := hx
  obtain ⟨hr1, hr2⟩ := hr
  have ha0 : 0 ≤ a := by omega
  have ha1 : a ≤ 1000000000000000 := by omega
  have hb0 : 0 ≤ b := by omega
  have hb1 : b ≤ 1000000000 := by omega
  have hu0 : 0 ≤ a % 1000000000 * b := Int.mul_nonneg (by omega) hb0
  have hu1 : a % 1000000000 * b ≤ 999999999 * 1000000000 := Int.mul_le_mul (by omega) hb1 hb0 (by omega)
  have hv0 : 0 ≤ a / 1000000000 * b := Int.mul_nonneg (by omega) hb0
  have hv1 : a / 1000000000 * b ≤ 1000000 * 1000000000 := Int.mul_le_mul (by omega) hb1 hb0 (by omega)
  have hpp := parts_product a b ha0 hb0
  have hwu : wrap64 (a % 1000000000 * b) = a % 1000000000 * b := IntWalk.wrap64_in _ ⟨by omega, by omega⟩
  have hwv : wrap64 (a / 1000000000 * b) = a / 1000000000 * b := IntWalk.wrap64_in _ ⟨by omega, by omega⟩
  obtain ⟨u, hu⟩ : ∃ u, u = a % 1000000000 * b := ⟨_, rfl⟩
  obtain ⟨v, hv⟩ : ∃ v, v = a / 1000000000 * b := ⟨_, rfl⟩
  rw [← hu] at hu0 hu1 hpp
  rw [← hv] at hv0 hv1 hpp
  have hwu' : wrap64 (a % 1000000000 * b) = u := by rw [hwu, hu]
  have hwv' : wrap64 (a / 1000000000 * b) = v := by rw [hwv, hv]
  rw [← hpp] at hn hrest
  have HN := hide hn
  have HRS := hide hrest
  clear hwu hwv hu hv hpp hn hrest
  have HA := hide ha
  have HB := hide hb
  have HBL := hide hbel
  clear ha hb hbel
  have t1 : decide (d < 1) = false := decide_eq_false (by omega)
  have t2 : decide (1000000000 < d) = false := decide_eq_false (by omega)
  have t3 : decide (x < -1000000000) = false := decide_eq_false (by omega)
  have t4 : decide (1000000000 < x) = false := decide_eq_false (by omega)
  have t5 : decide (r < 1) = false := decide_eq_false (by omega)
  have t6 : decide (6 < r) = false := decide_eq_false (by omega)
  go_enter Tryd.func26, Tryd.ntmps26
  go_upto_region 8 with (go_at_call 36; refine (CM.out _).mono ?_; rintro e w' ⟨rfl, rfl⟩)
  go_cut [12] (fun s wx => s = .bool below ∧ w = wx)
  case first =>
    rcases (show (m < 0 ∧ 0 < x) ∨ (m < 0 ∧ x ≤ 0) ∨ (0 ≤ m ∧ m ≤ 0) ∨ (0 < m ∧ x < 0) ∨ (0 < m ∧ 0 ≤ x) by omega) with ⟨g1, g2⟩ | ⟨g1, g2⟩ | ⟨g1, g2⟩ | ⟨g1, g2⟩ | ⟨g1, g2⟩
    all_goals
      go_wp2_with fail
      go_meet
      exact ⟨congrArg Value.bool (by rw [HBL.out]; first | exact (decide_eq_true (by omega)).symm | exact (decide_eq_false (by omega)).symm | (apply decide_eq_decide.2; omega)), rfl⟩
  case rest =>
  obtain ⟨rfl, rfl⟩ := hcut
  clear CM t1 t2 t3 t4 t5 t6
  go_upto_if 62 with fail
  go_cut [10] (fun s wx => s = .int .i64 a ∧ w = wx)
  case first =>
    rcases (show m < 0 ∨ 0 ≤ m by omega) with g1 | g1
    all_goals
      go_wp2_with fail
      go_meet
      exact ⟨congrArg (Value.int .i64) (by have := HA.out; omega), rfl⟩
  case rest =>
  obtain ⟨rfl, rfl⟩ := hcut
  go_upto_if 66 with fail
  go_cut [11] (fun s wx => s = .int .i64 b ∧ w = wx)
  case first =>
    rcases (show x < 0 ∨ 0 ≤ x by omega) with g1 | g1
    all_goals
      go_wp2_with fail
      go_meet
      exact ⟨congrArg (Value.int .i64) (by have := HB.out; omega), rfl⟩
  case rest =>
  obtain ⟨rfl, rfl⟩ := hcut
  clear HA HB HBL hm1 hm2 hx1 hx2
  go_wp2_with fail
  have hc0 : ∀ k, k < 3 → (w.alloc (.cells #[.int .i64 ((v + u / 1000000000) / 1000000000), .int .i64 ((v + u / 1000000000) % 1000000000), .int .i64 (u % 1000000000)] 2)).cell? ⟨w.heap.size, k, none⟩ = some (.int .i64 (digs u v k)) := digs_cells w u v
  have hbW : Below w.heap.size w (w.alloc (.cells #[.int .i64 ((v + u / 1000000000) / 1000000000), .int .i64 ((v + u / 1000000000) % 1000000000), .int .i64 (u % 1000000000)] 2)) := (Below.refl _ _).alloc (Nat.le_refl _) _
  have hsW : w.heap.size < (w.alloc (.cells #[.int .i64 ((v + u / 1000000000) / 1000000000), .int .i64 ((v + u / 1000000000) % 1000000000), .int .i64 (u % 1000000000)] 2)).heap.size := by simp
  generalize w.alloc (.cells #[.int .i64 ((v + u / 1000000000) / 1000000000), .int .i64 ((v + u / 1000000000) % 1000000000), .int .i64 (u % 1000000000)] 2) = W at *
  have HC0 := hide hc0
  have HDB := hide (digs_bd u v hu0 hu1 hv0 hv1)
  have HND : Hid (n = ((digs u v 0 * 1000000000 + digs u v 1) * 1000000000 + digs u v 2) / d) := HN.out
  have HRD : Hid (rest = ((digs u v 0 * 1000000000 + digs u v 1) * 1000000000 + digs u v 2) % d) := HRS.out
  clear hc0 hwu' hwv' HN HRS
  generalize digs u v = pf at *
  go_loopw [16, 17, 18] (fun q t i wr => ∃ (k : Nat) (z : Option Addr) (cz : Nat) (rv : Int), k ≤ 3 ∧ i = .int .i64 k ∧ q = .slice z k cz ∧ t = .int .i64 rv ∧ 0 ≤ rv ∧ rv < d ∧ Hid (rv = ldRest d pf k) ∧ wr.ownsRow W.heap.size 2 1 (.slice z k cz) k (((List.range k).map (ldQ d pf)).map (Value.int .i64)) ∧ Below W.heap.size W wr)
    (fun _ _ i _ => 3 - (intOf i).toNat)
  case atStart => exact ⟨0, none, 0, 0, by omega, rfl, rfl, rfl, by omega, by omega, rfl, World.ownsRow_nil _ _ _ _, Below.refl _ _⟩
  case round =>
    obtain ⟨k, z, cz, rv, hk, rfl, rfl, rfl, hrv0, hrv1, HRV, hown, hbel⟩ := hrel
    by_cases hlt : k < 3
    · obtain ⟨c, hc⟩ : ∃ c, c = pf k := ⟨_, rfl⟩
      have hcx : wr.cell? ⟨w.heap.size, k, none⟩ = some (.int .i64 c) := by rw [hbel.cell (p := ⟨w.heap.size, k, none⟩) hsW, hc]; exact HC0.out k hlt
      have hcb : 0 ≤ c ∧ c ≤ 1000000000 := by rw [hc]; exact HDB.out k
      obtain ⟨hcb0, hcb1⟩ := hcb
      have HQ : Hid ((rv * 1000000000 + c) / d = ldQ d pf k) := by unfold Hid ldQ; rw [hc, ← HRV.out]
      have HR2 : Hid ((rv * 1000000000 + c) % d = ldRest d pf (k + 1)) := by unfold Hid ldRest; rw [hc, ← HRV.out]
      have hmb0 := Int.emod_nonneg (rv * 1000000000 + c) (show d ≠ 0 by omega)
      have hmb1 := Int.emod_lt_of_pos (rv * 1000000000 + c) (show 0 < d by omega)
      have hqb0 : 0 ≤ (rv * 1000000000 + c) / d := Int.ediv_nonneg (by omega) (by omega)
      have hqb1 : (rv * 1000000000 + c) / d ≤ rv * 1000000000 + c := Int.ediv_le_self _ (by omega)
      clear hc
      go_wp2_with (at_builtin; go_must (refine wpList_append_own _ rfl _ _ 51 rfl W.heap.size 2 i0 (.int .i64 0) 1 8 Tryd.underlying51 hi hz0 hz1 hz2 rfl (by decide) _ k _ rfl (hown.alloc _) ⟨wr.heap.size, 0, none⟩ 1 1 [.int .i64 ((rv * 1000000000 + c) / d)] rfl rfl (cell_one_new _ _ _) (one_cell _ _) (by unfold maxLen; omega) (by omega) (by have := hbel.size; simp; omega) ?_))
      intro v' w1 hown' hgrow _
      have hbel1 : Below W.heap.size W w1 := (hbel.alloc hbel.size _).grown hgrow (by have := hbel.size; simp; omega) (fun k hk => (hown.lt k hk).1)
      obtain ⟨z2, cz2, hv2⟩ := own_shape hown'
      subst hv2
      have HO : Hid (w1.ownsRow W.heap.size 2 1 (.slice z2 (k + 1) cz2) (k + 1) (((List.range (k + 1)).map (ldQ d pf)).map (Value.int .i64))) := by unfold Hid; rw [List.range_succ, List.map_append, List.map_append]; rw [HQ.out] at hown'; simpa using hown'
      clear hgrow hown'
      go_wp2_with fail
      go_roundw
      case rel => exact ⟨k + 1, z2, cz2, _, by omega, by go_num, rfl, rfl, hmb0, hmb1, HR2, HO.out, hbel1⟩
      case measure => simp [intOf]; omega
    · have hk3 : k = 3 := by omega
      subst hk3
      obtain ⟨q0, q1, q2, g, hz3, hq0, hq1, hq2, hE⟩ := three_cells hown
      subst hz3
      obtain ⟨hn1, hr1'⟩ := ld_three d pf hd1
      rw [← HND.out, ← hE.out.1, ← hE.out.2.1, ← hE.out.2.2] at hn1
      rw [← HRD.out, ← HRV.out] at hr1'
      have hB0 : 0 ≤ q0 := by rw [hE.out.1]; exact (ldQ_bd d pf hd1 0 (HDB.out 0)).1
      have hB1 : 0 ≤ q1 ∧ q1 ≤ 1000000000 := by rw [hE.out.2.1]; exact ldQ_bd d pf hd1 1 (HDB.out 1)
      have hB2 : 0 ≤ q2 ∧ q2 ≤ 1000000000 := by rw [hE.out.2.2]; exact ldQ_bd d pf hd1 2 (HDB.out 2)
      obtain ⟨hB10, hB11⟩ := hB1
      obtain ⟨hB20, hB21⟩ := hB2
      have HRR := hide hr1'
      have HNN := hide hn1
      have hbw : Below w.heap.size w wr := hbW.trans (hbel.mono hbW.size)
      clear hr1' hn1 hE HRV HND HRD HC0 HDB hown hbel hu0 hu1 hv0 hv1 hlt hk
      by_cases hq : 0 < q0
      · have HT := hide (tail_over (upM r below n rest d) below n (by have := HNN.out; omega))
        go_wp2_with fail
        go_ret2
        exact ⟨ret_pair HT.out, hbw⟩
      · have HN2 : Hid (q1 * 1000000000 + q2 = n) := by have := HNN.out; unfold Hid; omega
        have hw1 : IntKind.i64.wrap (q1 * 1000000000) = q1 * 1000000000 := wrap_small _ (by omega)
        have hw2 : IntKind.i64.wrap (q1 * 1000000000 + q2) = n := by rw [wrap_small _ (by omega)]; exact HN2.out
        have hn0 : 0 ≤ n := by have := HN2.out; omega
        have hn1 : n ≤ 1000000001000000000 := by have := HN2.out; omega
        go_upto_region 26 with fail
        go_region
        clear hw1 hw2 hq0 hq1 hq2
        obtain ⟨U, hU⟩ : ∃ U, U = upM r below n rest d := ⟨_, rfl⟩
        have HU := hide hU
        clear hU
        go_upto_block 2 with fail
        go_cut [21] (fun s wx => s = .bool U ∧ wr.drew = wx)
        case first =>
          have hways := up_ways r below n rv d U hr1 hr2 (by rw [HRR.out]; exact HU.out)
          clear HU HRR HN2 HNN
          rcases hways with ⟨c1, HV⟩ | ⟨c1, c2, c3, HV⟩ | ⟨c1, c2, c3, HV⟩ | ⟨c1, c2, c3, HV⟩ | ⟨c1, c2, c3, HV⟩ | ⟨c1, c2, c3, HV⟩ | ⟨c1, c2, c3, HV⟩ | ⟨c1, c2, c3, HV⟩ | ⟨c1, c2, c3, HV⟩ | ⟨c1, c3, HV⟩ | ⟨c1, c3, c4, c5, HV⟩ | ⟨c1, c3, c4, c5, HV⟩ | ⟨c1, c3, c4, HV⟩
          all_goals
            go_wp2_with fail
            go_meet
            exact ⟨congrArg Value.bool (by rw [HV.out]), rfl⟩
        case rest =>
        obtain ⟨rfl, rfl⟩ := hcut
        have HR : Hid (tailM (upM r below n rest d) below n = tailM U below n) := by unfold Hid; rw [HU.out]
        cases U with
        | true =>
          by_cases ho : 1000000000000000 < n + 1
          · have HT : Hid (tailM true below n = (0, 22)) := by unfold Hid tailM; simp [ho]
            go_wp2_with fail
            go_ret2
            exact ⟨ret_pair (by rw [HR.out, HT.out]), hbw.drew⟩
          · cases below with
            | true =>
              have HT : Hid (tailM true true n = (-(n + 1), 0)) := by unfold Hid tailM; simp [ho]
              go_wp2_with fail
              go_ret2
              exact ⟨ret_pair (by rw [HR.out, HT.out]), hbw.drew⟩
            | false =>
              have HT : Hid (tailM true false n = (n + 1, 0)) := by unfold Hid tailM; simp [ho]
              go_wp2_with fail
              go_ret2
              exact ⟨ret_pair (by rw [HR.out, HT.out]), hbw.drew⟩
        | false =>
          by_cases ho : 1000000000000000 < n
          · have HT : Hid (tailM false below n = (0, 22)) := by unfold Hid tailM; simp [ho]
            go_wp2_with fail
            go_ret2
            exact ⟨ret_pair (by rw [HR.out, HT.out]), hbw.drew⟩
          · cases below with
            | true =>
              have HT : Hid (tailM false true n = (-n, 0)) := by unfold Hid tailM; simp [ho]
              go_wp2_with fail
              go_ret2
              exact ⟨ret_pair (by rw [HR.out, HT.out]), hbw.drew⟩
            | false =>
              have HT : Hid (tailM false false n = (n, 0)) := by unfold Hid tailM; simp [ho]
              go_wp2_with fail
              go_ret2
              exact ⟨ret_pair (by rw [HR.out, HT.out]), hbw.drew⟩

end Go.Proofs.YthpbadnedhjncaaDoor
