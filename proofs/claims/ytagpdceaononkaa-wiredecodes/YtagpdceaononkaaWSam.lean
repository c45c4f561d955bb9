/- SameBytes, CopyBytes, SameChoices, SameStep, SameSteps. -/
import Derived.Test.YtagpdceaononkaaWOwn
import Derived.Laws.StructEq
import Derived.Laws.Tables
import Derived.KernelRfl
namespace Go.Proofs.Ytagpdceaononkaa
open Go.RowKit

theorem take_eq_step {xs ys : List Int} {k : Nat} {c d : Int} (hx : xs.take (k + 1) = xs.take k ++ [c]) (hy : ys.take (k + 1) = ys.take k ++ [d]) (h : xs.take k = ys.take k) (hcd : c = d) : xs.take (k + 1) = ys.take (k + 1) := by
  rw [hx, hy, h, hcd]

theorem take_ne {xs ys : List Int} {k : Nat} {c d : Int} (hx : xs.take (k + 1) = xs.take k ++ [c]) (hy : ys.take (k + 1) = ys.take k ++ [d]) (h : xs.take k = ys.take k) (hcd : c ≠ d) : xs ≠ ys := by
  intro e; subst e; rw [hx] at hy; exact hcd (by simpa using hy)


set_option maxHeartbeats 400000 in
theorem same_any (a1 a2 : Option Addr) (len1 cap1 len2 cap2 : Nat) (xs ys : List Int) (w : World) (hl1 : xs.length = len1) (hl2 : ys.length = len2) (hlen : len1 ≤ 140737488355328) (h1 : Row w a1 xs) (h2 : Row w a2 ys) :
    Calls Try.prog 14 #[.slice a1 len1 cap1, .slice a2 len2 cap2] w fun e w' => e = .returned (.bool (decide (xs = ys))) ∧ Below w.heap.size w w' := by
  have HL1 : Hid (xs.length = len1) := hl1
  have HL2 : Hid (ys.length = len2) := hl2
  have HR1 : Hid (Row w a1 xs) := h1
  have HR2 : Hid (Row w a2 ys) := h2
  clear hl1 hl2 h1 h2
  by_cases hne : len1 = len2
  · subst hne
    go_enter Try.func14, Try.ntmps14
    go_wp2
    go_loopw [5] (fun i wr => ∃ k : Nat, k ≤ len1 ∧ i = .int .i64 k ∧ Hid (xs.take k = ys.take k) ∧ Below w.heap.size w wr)
      (fun i _ => len1 - (intOf i).toNat)
    case atStart => exact ⟨0, Nat.zero_le _, rfl, by simp [Hid], Below.refl _ _⟩
    case round =>
      obtain ⟨k, hk, rfl, HE, hbel⟩ := hrel
      by_cases hlt : k < len1
      · obtain ⟨b1, off1, c, ha1, hcx1, HT1⟩ := Row.get HR1.out HL1.out hbel hlt
        obtain ⟨b2, off2, d, ha2, hcx2, HT2⟩ := Row.get HR2.out HL2.out hbel hlt
        subst ha1
        subst ha2
        by_cases hcd : c = d
        · have hcdb : (c != d) = false := by simp [hcd]
          have HCD : Hid (c = d) := hcd
          clear hcd
          go_wp2
          go_region
          all_goals (try go_wp2)
          all_goals
            go_roundw
            case rel => exact ⟨k + 1, by omega, by go_num, take_eq_step HT1.out HT2.out HE.out HCD.out, by first | exact hbel.drew | exact hbel.drew.drew | exact hbel⟩
            case measure => simp [intOf]; omega
        · have hcdb : (c != d) = true := by simp [hcd]
          have HCD : Hid (c ≠ d) := hcd
          clear hcd
          go_wp2
          go_region
          all_goals (try go_wp2)
          all_goals go_ret
          all_goals exact ⟨ret_bool (by simp [take_ne HT1.out HT2.out HE.out HCD.out]), by first | exact hbel.drew | exact hbel.drew.drew | exact hbel⟩
      · go_wp2
        go_ret
        have : xs = ys := by
          have h := HE.out
          rw [List.take_of_length_le (by rw [HL1.out]; omega), List.take_of_length_le (by rw [HL2.out]; omega)] at h
          exact h
        exact ⟨ret_bool (by simp [this]), hbel⟩
  · have hb : ((len1 : Int) != len2) = true := by simp; omega
    have HN : Hid (xs ≠ ys) := by
      intro e
      have h1 := HL1.out
      have h2 := HL2.out
      subst e; omega
    go_enter Try.func14, Try.ntmps14
    go_wp2
    go_ret
    exact ⟨ret_bool (by simp [HN.out]), Below.refl _ _⟩

set_option maxHeartbeats 400000 in
theorem copy_any (a : Option Addr) (len cap : Nat) (zs : List Int) (w : World) (hl : zs.length = len) (hlen : len ≤ 140737488355328) (h : Row w a zs) :
    Calls Try.prog 17 #[.slice a len cap] w fun e w' => ∃ v, e = .returned v ∧ w'.ownsRow w.heap.size 5 1 v len (zs.map (Value.int .u8)) ∧ Below w.heap.size w w' := by
  obtain ⟨i0, hi, hz0, hz1, hz2⟩ := info_parts infoB
  have HL : Hid (zs.length = len) := hl
  have HR : Hid (Row w a zs) := h
  clear hl h
  go_enter Try.func17, Try.ntmps17
  go_wp2
  go_loopw [3, 4] (fun v i wr => ∃ k : Nat, k ≤ len ∧ i = .int .i64 k ∧ wr.ownsRow w.heap.size 5 1 v k ((zs.take k).map (Value.int .u8)) ∧ Below w.heap.size w wr)
    (fun _ i _ => len - (intOf i).toNat)
  case atStart => exact ⟨0, Nat.zero_le _, rfl, World.ownsRow_nil _ _ _ _, Below.refl _ _⟩
  case round =>
    obtain ⟨k, hk, rfl, hown, hbel⟩ := hrel
    by_cases hlt : k < len
    · obtain ⟨b, off, c, ha, hcx, HT⟩ := Row.get HR.out HL.out hbel hlt
      subst ha
      go_wp2_with (first
        | (at_builtin; go_must (refine wpList_append_own _ rfl _ _ 29 rfl w.heap.size 5 i0 (.int .u8 0) 1 1 Try.underlying29 hi hz0 hz1 hz2 rfl (by decide) _ _ _ rfl (hown.alloc _) ⟨wr.heap.size, 0, none⟩ 1 1 [.int .u8 c] rfl rfl (cell_one_new _ _ _) ?c2 ?c3 ?c4 ?c5 ?_))
        | go_in)
      case c2 => intro u hu; simp at hu; subst hu; rfl
      case c3 => unfold maxLen; omega
      case c4 => omega
      case c5 => have := hbel.size; simp; omega
      intro v' w1 hown' hgrow _
      have hbel1 : Below w.heap.size w w1 := (hbel.alloc hbel.size _).grown hgrow (by have := hbel.size; simp; omega) (fun k hk => (hown.lt k hk).1)
      clear hgrow
      go_wp2
      go_roundw
      case rel => exact ⟨k + 1, by omega, by go_num, by rw [HT.out]; simpa using hown', hbel1⟩
      case measure => simp [intOf]; omega
    · go_wp2
      go_ret
      have : k = len := by omega
      subst this
      rw [List.take_of_length_le (by rw [HL.out]; omega)] at hown
      exact ⟨_, rfl, hown, hbel⟩


theorem eq_choice (a b x y : Int) (w : World) : (Op.equalIn 10000 54 (.agg #[.int .i64 a, .int .i64 b]) (.agg #[.int .i64 x, .int .i64 y])).run Try.prog w = .ok (a == x && b == y) w := by
  have u3 := Try.underlying3
  have z3 := Try.sizeOf3
  have hS : Try.prog.underlying 54 = some (.struct (Try.prog.fieldsOf 54)) := by kernel_rfl
  rw [show (10000 : Nat) = 9999 + 1 from rfl, run_equalIn_agg w 9999 54 _ _ hS (by kernel_rfl)]
  simp [Op.eqFields, go_sem]
  by_cases h1 : a = x <;> by_cases h2 : b = y <;> simp [h1, h2]
set_option maxRecDepth 100000 in
set_option maxHeartbeats 3200000 in
theorem sameChoices_yes {N M : Nat} {w : World} {l : List (Int × Int)} {a b : Option Addr} {c d : Nat} (ha : ChN N w a l) (hb : ChN M w b l) (hl : l.length ≤ 140737488351232) (q : Nat) :
    Calls Try.prog 38 #[.slice a l.length c, .slice b l.length d] (w.drewN q) fun e w' => e = .returned (.bool true) ∧ Below w.heap.size w w' := by
  have HA := hide ha
  have HB := hide hb
  clear ha hb
  go_enter Try.func38, Try.ntmps38
  go_wp2_with fail
  go_loopw [5] (fun x wr => ∃ (i q : Nat), i ≤ l.length ∧ x = .int .i64 i ∧ wr = w.drewN q) (fun x _ => l.length - (intOf x).toNat)
  case atStart => exact ⟨0, q, by omega, rfl, rfl⟩
  case round =>
    obtain ⟨i, q2, hk, rfl, rfl⟩ := hrel
    by_cases hlt : i < l.length
    · obtain ⟨x, hx⟩ := get_at hlt
      obtain ⟨ga, oa, rfl, -, a0, a1⟩ := HA.out i x hx
      obtain ⟨gb, ob, rfl, -, b0, b1⟩ := HB.out i x hx
      have he : ∀ w, (Op.equalIn 10000 54 (.agg #[.int .i64 x.1, .int .i64 x.2]) (.agg #[.int .i64 x.1, .int .i64 x.2])).run Try.prog w = .ok true w := fun w => (eq_choice _ _ _ _ w).trans (by simp)
      clear hx
      go_wp2_with fail
      go_quiet (fail)
      go_wp2_with fail
      go_roundw
      case rel => exact ⟨i + 1, _, by omega, by go_num, rfl⟩
      case measure => simp [intOf]; omega
    · go_wp2_with fail
      go_ret
      exact ⟨rfl, below_drewN w q2⟩
theorem two_boxes (w : World) (o1 o2 : Obj) : Below w.heap.size w ((w.alloc o1).alloc o2) ∧ ((w.alloc o1).alloc o2).heap[w.heap.size]? = some o1 ∧ ((w.alloc o1).alloc o2).heap[w.heap.size + 1]? = some o2 := by
  have hs1 : (w.alloc o1).heap.size = w.heap.size + 1 := by simp
  have hA1 : Below w.heap.size w (w.alloc o1) := below_new w o1
  refine ⟨hA1.alloc (by omega) _, (Below.heap_alloc _ o2 _ (by omega)).trans (heap_alloc_new w o1), ?_⟩
  have := heap_alloc_new (w.alloc o1) o2
  rw [hs1] at this
  exact this
set_option maxRecDepth 100000 in
set_option maxHeartbeats 3200000 in
theorem sameStep_yes {w : World} {x : StM} {a b : Option Addr} {c d : Nat} (ha : ChN w.heap.size w a x.ch) (hb : ChN w.heap.size w b x.ch) (hl : x.ch.length ≤ 140737488351232) :
    Calls Try.prog 26 #[stv x a c, stv x b d] w fun e w' => e = .returned (.bool true) ∧ Below w.heap.size w w' := by
  obtain ⟨hA, h1, h2⟩ := two_boxes w (.cells #[.int .i64 x.tag, .int .i64 x.lit, .int .i64 x.how, .int .i64 x.rule, .slice a x.ch.length c] 52) (.cells #[.int .i64 x.tag, .int .i64 x.lit, .int .i64 x.how, .int .i64 x.rule, .slice b x.ch.length d] 52)
  have HA := hide hA
  have CS := hide (sameChoices_yes (c := c) (d := d) (ha.keep hA.block) (hb.keep hA.block) hl 0)
  obtain ⟨a0, a1, a2, a3, a4⟩ := five_cells h1
  obtain ⟨b0, b1, b2, b3, b4⟩ := five_cells h2
  clear ha hb hA h1 h2
  unfold stv
  go_enter Try.func26, Try.ntmps26
  go_upto_region 1 with fail
  generalize (w.alloc (.cells #[.int .i64 x.tag, .int .i64 x.lit, .int .i64 x.how, .int .i64 x.rule, .slice a x.ch.length c] 52)).alloc (.cells #[.int .i64 x.tag, .int .i64 x.lit, .int .i64 x.how, .int .i64 x.rule, .slice b x.ch.length d] 52) = w2 at *
  go_wp2_with (go_at_call 38; refine CS.out.mono ?_; rintro _ w3 ⟨rfl, hb3⟩; have HB3 := hide hb3; clear hb3)
  go_ret
  exact ⟨rfl, HA.out.trans (HB3.out.mono HA.out.size)⟩
theorem Sts.at {N : Nat} {w : World} {l : List StM} {a : Option Addr} (h : Sts N w l a) (hN : N ≤ w.heap.size) {i : Nat} {s : StM} (hs : l[i]? = some s) : ∃ (g o : Nat) (ca : Option Addr) (cc : Nat), a = some ⟨g, o, none⟩ ∧ g < w.heap.size ∧ w.cell? ⟨g, o + i * 5, none⟩ = some (.int .i64 s.tag) ∧ w.cell? ⟨g, o + i * 5 + 1, none⟩ = some (.int .i64 s.lit) ∧ w.cell? ⟨g, o + i * 5 + 2, none⟩ = some (.int .i64 s.how) ∧ w.cell? ⟨g, o + i * 5 + 3, none⟩ = some (.int .i64 s.rule) ∧ w.cell? ⟨g, o + i * 5 + 4, none⟩ = some (.slice ca s.ch.length cc) ∧ s.ch.length ≤ 140737488351232 ∧ ChN w.heap.size w ca s.ch := by
  obtain ⟨g, o, ca, cc, e, hg, c0, c1, c2, c3, c4, h1, h2⟩ := h i s hs
  exact ⟨g, o, ca, cc, e, by omega, c0, c1, c2, c3, c4, h1, h2.up hN⟩
set_option maxRecDepth 100000 in
set_option maxHeartbeats 6400000 in
theorem sameSteps_yes {N M : Nat} {w : World} {l : List StM} {a b : Option Addr} {c d : Nat} (ha : Sts N w l a) (hb : Sts M w l b) (hN : N ≤ w.heap.size) (hM : M ≤ w.heap.size) (hlim : l.length ≤ 140737488351232) :
    Calls Try.prog 15 #[.slice a l.length c, .slice b l.length d] w fun e w' => e = .returned (.bool true) ∧ Below w.heap.size w w' := by
  have HA := hide (ha.up hN)
  have HB := hide (hb.up hM)
  clear ha hb
  go_enter Try.func15, Try.ntmps15
  go_wp2_with fail
  go_loopw [5] (fun x wr => ∃ i : Nat, i ≤ l.length ∧ x = .int .i64 i ∧ Hid (Below w.heap.size w wr)) (fun x _ => l.length - (intOf x).toNat)
  case atStart => exact ⟨0, by omega, rfl, hide (Below.refl _ w)⟩
  case round =>
    obtain ⟨i, hk, rfl, HW⟩ := hrel
    by_cases hlt : i < l.length
    · obtain ⟨x, hx⟩ := get_at hlt
      obtain ⟨ga, oa, la, lc, rfl, hga, a0, a1, a2, a3, a4, hll, ia⟩ := (HA.out.keep HW.out.block).at HW.out.size hx
      obtain ⟨gb, ob, lb, ld, rfl, hgb, b0, b1, b2, b3, b4, -, ib⟩ := (HB.out.keep HW.out.block).at HW.out.size hx
      have IA := hide ia
      have IB := hide ib
      have C := hide (sameStep_yes (w := wr.drewN 1) (x := x) (c := lc) (d := ld) (ia.keep fun _ _ => rfl) (ib.keep fun _ _ => rfl) hll)
      clear hx ia ib IA IB
      unfold stv at C
      go_upto_region 6 with fail
      go_region_with (go_at_call 26; refine C.out.mono ?_; rintro _ w3 ⟨rfl, hb3⟩; have HB3 := hide hb3; clear hb3)
      all_goals
        go_wp2_with fail
        go_roundw
        case rel => exact ⟨i + 1, by omega, by go_num, hide (HW.out.trans (((below_drewN wr 1).trans HB3.out).mono HW.out.size))⟩
        case measure => simp [intOf]; omega
    · go_wp2_with fail
      go_ret
      exact ⟨rfl, HW.out⟩
set_option maxHeartbeats 400000 in
theorem lnum_any (e : Int) (w : World) : Calls Try.prog 13 #[.int .i64 e] w fun r w' => r = .returned (.int .i64 e) ∧ w' = w := by
  go_enter Try.func13, Try.ntmps13
  go_wp2_with fail
  go_ret
  exact ⟨rfl, rfl⟩
end Go.Proofs.Ytagpdceaononkaa
