/- MoneyOrder, walked. -/
import Derived.Test.YthpbadnedhjncabDoorWorks
import Derived.Test.YthpbadnedhjncabDoorSumsWalk
import Derived.Test.YthpbadnedhjncabDoorMoneyPlain
import Derived.Test.YthpbadnedhjncabDoorOrderPlain
import Derived.Sort.WalkB2
namespace Go.Proofs.YthpbadnedhjncabDoor
open Go.RowKit

theorem place (x : Int) (len : Nat) (h0 : 0 < len) : ∃ (q : Int) (i : Nat), x.tmod len = q ∧ -(len : Int) < q ∧ q < len ∧ (q + len).tmod len = i ∧ i < len := by
  have b1 := Int.tmod_lt_of_pos x (show (0 : Int) < len by omega)
  have b2 : -(len : Int) < x.tmod len := by
    have e := Int.neg_tmod (-x) (len : Int)
    rw [Int.neg_neg] at e
    have := Int.tmod_lt_of_pos (-x) (show (0 : Int) < len by omega)
    omega
  refine ⟨x.tmod len, ((x.tmod len + len).tmod len).toNat, rfl, b2, b1, ?_, ?_⟩
  · have := Int.tmod_nonneg (len : Int) (show 0 ≤ x.tmod len + len by omega)
    omega
  · have := Int.tmod_nonneg (len : Int) (show 0 ≤ x.tmod len + len by omega)
    have := Int.tmod_lt_of_pos (x.tmod len + len) (show (0 : Int) < len by omega)
    omega

theorem cells_two_new (w : World) (x y : Value) (t : TypeId) : ∀ j u, [x, y][j]? = some u → (w.alloc (.cells #[x, y] t)).cell? ((⟨w.heap.size, 0, none⟩ : Addr).add j) = some u := by
  intro j u hu
  have hadd : (⟨w.heap.size, 0, none⟩ : Addr).add j = ⟨w.heap.size, j, none⟩ := by unfold Addr.add; split <;> simp_all
  rw [hadd, cell_of_row _ _ _ _ _ _ (heap_alloc_new w _)]
  simpa using hu

theorem two_cells (q : IntKind) (c d : Int) : ∀ u ∈ [Value.int q c, Value.int q d], u.oneCell' = true := by
  intro u hu; simp at hu; rcases hu with rfl | rfl <;> rfl

theorem step_append_own {P : Program} {ops : Array Oper} {o : Oper} {a : Act} {w : World} {K : Act → World → Prop} {Q : Exit → Act → World → Prop} {E : Prop}
    (hg : o.guard = none) (s x : Operand) (t : TypeId) (hop : o.op = Op.call { callee := Callee.builtin Builtin.append, args := #[s, x], argTypes := #[t, t] })
    (base : Nat) (e : TypeId) (i : TypeInfo) (z : Value) (size bytes : Nat) (ht : P.underlying t = some (.slice e)) (hi : P.info? e = some i) (hz : i.zero = some z)
    (hsize : i.size = size) (hby : i.bytes = bytes) (hzs : z.cells.size = size) (hsz : 0 < size)
    (v : Value) (n : Nat) (xs : List Value) (hs : a.eval s = v) (hown : w.ownsRow base e size v n xs)
    (ad : Addr) (m c : Nat) (news : List Value) (hx : a.eval x = .slice (some ad) m c) (hl : news.length = m * size) (hnews : ∀ j u, news[j]? = some u → w.cell? (ad.add j) = some u) (h1 : ∀ u ∈ news, u.oneCell' = true)
    (h63 : n + m ≤ maxLen) (hbytes : (n + m) * bytes ≤ 140737488355328) (hbase : base ≤ w.heap.size)
    (hK : ∀ v' w', w'.ownsRow base e size v' (n + m) (xs ++ news) → w.grownBy w' v.ownBlock → K (a.put o.dst v') w') :
    if Region.wanted o (yielded ops a.tmps) = true then Oper.wp P o a w K Q else E := by
  have hw : Region.wanted o (yielded ops a.tmps) = true := by simp [Region.wanted, hg]
  rw [if_pos hw]
  obtain ⟨v', w', hr, h2, h3, _⟩ := run_append_own (P := P) w base t o.type e i z size bytes ht hi hz hsize hby hzs hsz v n xs hown ad m c news hl hnews h1 h63 hbytes hbase
  unfold Oper.wp
  simp [execOp, hop, resolve, invoke, builtin, hs, hx, hr, Result.andThen]
  exact hK v' w' h2 h3

theorem sum_not_all (zs : List Int) (h : zs.all may = false) : (sumM zs).2 = 22 := by
  obtain ⟨c, hc, hm⟩ := List.all_eq_false.1 h
  rw [sumM_bad hc (by simpa using hm)]

set_option maxRecDepth 100000 in
set_option maxHeartbeats 4000000 in
theorem order_some (a : Option Addr) (len cap : Nat) (zs : List Int) (x y : Int) (w : World) (hl : zs.length = len) (hlen : len ≤ 1048576) (h0 : 0 < len) (h : Nums .i64 w a zs) (ht : Tab w) :
    Calls Tryd.prog 3 #[.slice a len cap, .int .i64 x, .int .i64 y] w fun e w' => e = .returned (.bool true) ∧ Below w.heap.size w w' := by
  have CC := hide (fun w h => copyMoney_any a len cap zs w hl (by omega) h)
  have CW := hide works_any
  have HT := hide ht
  have HR := hide h
  have HL := hide hl
  obtain ⟨ii, hi, hz0, hz1, hz2⟩ := info_parts infoMoney
  have mixed : Tryd.prog.follows .mixedOrders = true := by kernel_rfl
  clear ht h hl
  go_enter Tryd.func3, Tryd.ntmps3
  go_wp2_with fail
  refine (CW.out _ HT.out).mono ?_
  rintro _ w1 ⟨rfl, hb1⟩
  have HR1 := hide (HR.out.below hb1 (Nat.le_refl _))
  go_wp2_with fail
  refine (CC.out _ HR1.out).mono ?_
  rintro _ w2 ⟨p, cp, rfl, hown, hb2⟩
  have HB2 : Hid (Below w.heap.size w w2) := hb1.trans (hb2.mono hb1.size)
  clear CC HR1
  obtain ⟨g, c', e', hgw⟩ := own_some hown h0
  simp only [Value.slice.injEq] at e'
  obtain ⟨rfl, _, rfl⟩ := e'
  obtain ⟨q1, i1, r1, r2, r3, r4, r5⟩ := place x len h0
  obtain ⟨q2, i2, s1, s2, s3, s4, s5⟩ := place y len h0
  have e1 : IntKind.i64.wrap q1 = q1 := by rw [IntKind.wrap_i64]; omega
  have e2 : IntKind.i64.wrap q2 = q2 := by rw [IntKind.wrap_i64]; omega
  have e3 : IntKind.i64.wrap (q1 + len) = q1 + len := by rw [IntKind.wrap_i64]; omega
  have e4 : IntKind.i64.wrap (q2 + len) = q2 + len := by rw [IntKind.wrap_i64]; omega
  have e5 : IntKind.i64.wrap (i1 : Int) = i1 := by rw [IntKind.wrap_i64]; omega
  have e6 : IntKind.i64.wrap (i2 : Int) = i2 := by rw [IntKind.wrap_i64]; omega
  have e7 : ((len : Int) == 0) = false := by simp; omega
  have e8 : ¬ (len : Int) = 0 := by omega
  go_wp2_with fail
  go_region
  have HB3 : Hid (Below w.heap.size w w2.drew) := HB2.out.drew
  have hown3 := hown.drew
  have hgs : w.heap.size ≤ g := by have := hb1.size; omega
  clear r1 r2 r3 r4 s1 s2 s3 s4 e1 e2 e3 e4 e5 e6 e7 e8 hb1 hb2 HB2 hown
  generalize w2.drew = w3 at *
  obtain ⟨z1, hv1, HZ1, _⟩ := own_get hown3 r5
  obtain ⟨z2, hv2, HZ2, _⟩ := own_get hown3 s5
  have f1 := hown3.frozenAt i1
  have f2 := hown3.frozenAt i2
  obtain ⟨ho4, -⟩ := hown3.stored i1 (.int .i64 z2)
  have f3 := ho4.frozenAt i2
  have hl3 : zs.length = len := HL.out
  obtain ⟨u, hu⟩ : ∃ u, (w3.setCell ⟨g, i1, none⟩ (.int .i64 z2)).cell? ⟨g, i2, none⟩ = some u := by
    rw [ho4.cellAt i2 (by omega)]
    exact ⟨_, List.getElem?_eq_getElem (by simp; omega)⟩
  obtain ⟨ho5, -⟩ := ho4.stored i2 (.int .i64 z1)
  have hb4 : Below w.heap.size w ((w3.setCell ⟨g, i1, none⟩ (.int .i64 z2)).setCell ⟨g, i2, none⟩ (.int .i64 z1)).drew := ((HB3.out.setCell (by simpa using hgs) _).setCell (by simpa using hgs) _).drew
  have ho6 := ho5.drew
  rw [← List.map_set, ← List.map_set] at ho6
  have HO6 := hide ho6
  have HB4 := hide hb4
  clear ho4 ho5 ho6 hb4 hown3 HB3
  go_wp2_with fail
  go_big_region_o
  clear hv1 hv2 f1 f2 f3 hu
  obtain ⟨os, hos⟩ : ∃ os, os = swapL zs i1 i2 := ⟨_, rfl⟩
  have hst : (zs.set i1 z2).set i2 z1 = os := by rw [hos, HZ1.out, HZ2.out]; rfl
  rw [hst] at HO6
  have HS : Hid (sumM os = sumM zs) := by rw [hos]; exact swapL_sumM zs i1 i2 (by omega) (by omega)
  have HOL : Hid (os.length = len) := by rw [hos, Hid, swapL_len]; exact hl3
  have HN4 := hide (nums_of_own HO6.out)
  clear HO6 hst hos HZ1 HZ2 hl3
  generalize ((w3.setCell ⟨g, i1, none⟩ (.int .i64 z2)).setCell ⟨g, i2, none⟩ (.int .i64 z1)).drew = w4 at *
  have HR4 := hide (HR.out.below HB4.out (Nat.le_refl _))
  have C1 := hide (sum_any a len cap zs w4 HL.out (by omega) HR4.out)
  have C2 := hide (sum_any (some ⟨g, 0, none⟩) len cp os w4 HOL.out (by omega) HN4.out)
  rw [HS.out] at C2
  have HSE : Hid (zs.all may = false → (sumM zs).2 = 22) := sum_not_all zs
  unfold pairV at C1 C2
  generalize (sumM zs).1 = sv at *
  generalize (sumM zs).2 = se at *
  go_wp2_with fail
  refine C1.out.mono ?_
  rintro _ w5 ⟨rfl, hww⟩
  subst w5
  go_wp2_with fail
  refine C2.out.mono ?_
  rintro _ w5 ⟨rfl, hww⟩
  subst w5
  clear C1 C2
  go_wp2_with fail
  go_loop [14, 15] (fun o i => ∃ (k : Nat) (b : Bool), k ≤ len ∧ i = .int .i64 k ∧ o = .bool b ∧ Hid (b = (zs.take k).all may)) (fun _ i => len - (intOf i).toNat)
  case atStart => exact ⟨0, true, by omega, rfl, rfl, by simp [Hid]⟩
  case round =>
    obtain ⟨k, b, hk, rfl, rfl, HA⟩ := hrel
    by_cases hlt : k < len
    · obtain ⟨blk, off, c, ha, hcx, HTK, HC, HI⟩ := Nums.get HR4.out HL.out (Below.refl w4.heap.size w4) hlt
      subst ha
      have CM := hide (fun w => check_any c w)
      cases b with
      | false =>
        have HA2 : Hid (false = (zs.take (k + 1)).all may) := by unfold Hid; rw [HTK.out, List.all_append, ← HA.out]; rfl
        go_wp2_with fail
        go_round
        case rel => exact ⟨k + 1, false, by omega, by go_num, rfl, HA2⟩
        case measure => simp [intOf]; omega
      | true =>
        have HA2 : Hid (may c = (zs.take (k + 1)).all may) := by unfold Hid; rw [HTK.out, List.all_append, ← HA.out]; simp
        cases hm : may c with
        | false =>
          rw [checkM_false hm] at CM
          rw [hm] at HA2
          clear hm
          go_wp2_with (go_at_call 9; refine (CM.out _).mono ?_; rintro e w5 ⟨rfl, hww⟩; subst w5)
          go_round
          case rel => exact ⟨k + 1, false, by omega, by go_num, rfl, HA2⟩
          case measure => simp [intOf]; omega
        | true =>
          rw [checkM_true hm] at CM
          rw [hm] at HA2
          clear hm
          go_wp2_with (go_at_call 9; refine (CM.out _).mono ?_; rintro e w5 ⟨rfl, hww⟩; subst w5)
          go_round
          case rel => exact ⟨k + 1, true, by omega, by go_num, rfl, HA2⟩
          case measure => simp [intOf]; omega
    · have hke : k = len := by omega
      subst hke
      have HA3 : Hid (b = zs.all may) := by unfold Hid; rw [HA.out, List.take_of_length_le (by rw [HL.out]; omega)]
      clear HA
      cases b with
      | false =>
        have hse : se = 22 := HSE.out HA3.out.symm
        subst hse
        go_wp2_with fail
        go_ret
        exact ⟨rfl, HB4.out⟩
      | true =>
        have HALL : Hid (∀ z ∈ zs, may z = true) := List.all_eq_true.1 HA3.out.symm
        go_wp2_with fail
        go_loopw [16, 17] (fun v i wr => ∃ j : Nat, j ≤ k ∧ i = .int .i64 j ∧ wr.ownsRow w4.heap.size 25 1 v (2 * j) ((bothL (zs.take j)).map (Value.int .i64)) ∧ Below w4.heap.size w4 wr) (fun _ i _ => k - (intOf i).toNat)
        case atStart => exact ⟨0, Nat.zero_le _, rfl, World.ownsRow_nil _ _ _ _, Below.refl _ _⟩
        case round =>
          obtain ⟨j, hj, rfl, hown, hbel⟩ := hrel
          by_cases hlt : j < k
          · obtain ⟨blk, off, c, ha, hcx, HTK, HC, HI⟩ := Nums.get HR4.out HL.out hbel hlt
            subst ha
            have hcm := may_yes (HALL.out c HI.out)
            have hneg : IntKind.i64.wrap (-c) = -c := by rw [IntKind.wrap_i64]; omega
            have HBS : Hid (bothL (zs.take (j + 1)) = bothL (zs.take j) ++ [c, -c]) := by unfold Hid; rw [HTK.out, bothL_snoc]
            obtain ⟨vx, vcx, hvx⟩ := own_shape hown
            subst hvx
            go_wp2_with fail
            go_region_law (refine step_append_own rfl _ _ 22 rfl w4.heap.size 25 ii (.int .i64 0) 1 8 Tryd.underlying22 hi hz0 hz1 hz2 rfl (by decide) _ (2 * j) _ rfl (hown.alloc _).drew ⟨wr.heap.size, 0, none⟩ 2 2 [.int .i64 c, .int .i64 (-c)] rfl rfl (cells_two_new _ _ _ _) (two_cells _ _ _) (by unfold maxLen; omega) (by omega) (by have := hbel.size; simp; omega) ?_; intro v2 w6 hown2 hgrow2)
            all_goals
              have hbel2 : Below w4.heap.size w4 w6 := ((hbel.alloc hbel.size _).drew).grown hgrow2 (by have := hbel.size; simp; omega) (fun k hk => (hown.lt k hk).1)
              clear hgrow2 hown
              go_wp2
              go_roundw
              case rel => exact ⟨j + 1, by omega, by go_num, by rw [HBS.out]; simpa [Nat.mul_add] using hown2, hbel2⟩
              case measure => simp [intOf]; omega
          · have hje : j = k := by omega
            subst hje
            obtain ⟨v, cv, hv⟩ := own_shape hown
            subst hv
            rw [List.take_of_length_le (by rw [HL.out]; omega)] at hown
            have HN := hide (nums_of_own hown)
            have C3 := hide (sum_any v (2 * j) cv (bothL zs) wr (by rw [bothL_len, HL.out]) (by omega) HN.out)
            rw [bothL_sumM zs HALL.out] at C3
            unfold pairV at C3
            dsimp only at C3
            go_wp2_with fail
            refine C3.out.mono ?_
            rintro _ w6 ⟨rfl, hww⟩
            subst w6
            go_wp2_with fail
            go_ret
            exact ⟨rfl, HB4.out.trans (hbel.mono HB4.out.size)⟩

set_option maxRecDepth 100000 in
set_option maxHeartbeats 4000000 in
theorem order_none (a : Option Addr) (cap : Nat) (x y : Int) (w : World) (ht : Tab w) :
    Calls Tryd.prog 3 #[.slice a 0 cap, .int .i64 x, .int .i64 y] w fun e w' => e = .returned (.bool true) ∧ Below w.heap.size w w' := by
  have HR0 : Nums .i64 w a [] := ⟨fun h => absurd rfl h⟩
  have CC := hide (fun w h => copyMoney_any a 0 cap [] w rfl (by omega) h)
  have CW := hide works_any
  have HT := hide ht
  have HR := hide HR0
  clear ht HR0
  go_enter Tryd.func3, Tryd.ntmps3
  go_wp2_with fail
  refine (CW.out _ HT.out).mono ?_
  rintro _ w1 ⟨rfl, hb1⟩
  have HR1 := hide (HR.out.below hb1 (Nat.le_refl _))
  go_wp2_with fail
  refine (CC.out _ HR1.out).mono ?_
  rintro _ w2 ⟨p, cp, rfl, hown, hb2⟩
  have HB2 : Hid (Below w.heap.size w w2) := hb1.trans (hb2.mono hb1.size)
  clear CC HR1 hown hb1 hb2
  have C1 := hide (fun a cap => sum_any a 0 cap [] w2 rfl (by omega) ⟨fun h => absurd rfl h⟩)
  rw [show sumM [] = (0, 0) from bothL_sumM [] (fun z hz => by cases hz)] at C1
  unfold pairV at C1
  dsimp only at C1
  go_wp2_with fail
  refine (C1.out _ _).mono ?_
  rintro _ w5 ⟨rfl, hww⟩
  subst w5
  go_wp2_with fail
  refine (C1.out _ _).mono ?_
  rintro _ w5 ⟨rfl, hww⟩
  subst w5
  go_wp2_with fail
  go_loop [14, 15] (fun o i => i = .int .i64 0 ∧ o = .bool true) (fun _ _ => 0)
  case atStart => exact ⟨rfl, rfl⟩
  case round =>
    obtain ⟨rfl, rfl⟩ := hrel
    go_wp2_with fail
    go_loop [16, 17] (fun v i => i = .int .i64 0 ∧ v = .slice none 0 0) (fun _ _ => 0)
    case atStart => exact ⟨rfl, rfl⟩
    case round =>
      obtain ⟨rfl, rfl⟩ := hrel
      go_wp2_with fail
      refine (C1.out _ _).mono ?_
      rintro _ w5 ⟨rfl, hww⟩
      subst w5
      go_wp2_with fail
      go_ret
      exact ⟨rfl, HB2.out⟩

theorem order_walk (a : Option Addr) (len cap : Nat) (zs : List Int) (x y : Int) (w : World) (hl : zs.length = len) (hlen : len ≤ 1048576) (h : Nums .i64 w a zs) (ht : Tab w) :
    Calls Tryd.prog 3 #[.slice a len cap, .int .i64 x, .int .i64 y] w fun e w' => e = .returned (.bool true) ∧ Below w.heap.size w w' := by
  by_cases h0 : 0 < len
  · exact order_some a len cap zs x y w hl hlen h0 h ht
  · obtain rfl : len = 0 := by omega
    exact order_none a cap x y w ht

end Go.Proofs.YthpbadnedhjncabDoor
