/- Two theories that are one are the same. -/
import Derived.Test.YtdmnoeooljofcaaDec
namespace Go.Proofs.Ytdmnoeooljofcaa
open Go.RowKit

set_option maxRecDepth 100000 in
set_option maxHeartbeats 3200000 in
theorem sameInts_yes {l : List Int} {a b : Option Addr} {c d : Nat} {w : World} (ha : At1 w a (ints l)) (hb : At1 w b (ints l)) (hl : l.length ≤ 140737488351232) :
    Calls Try.prog 20 #[.slice a l.length c, .slice b l.length d] w fun e w' => e = .returned (.bool true) ∧ Below w.heap.size w w' := by
  have HA := hide ha
  have HB := hide hb
  clear ha hb
  go_enter Try.func20, Try.ntmps20
  go_wp2_with fail
  go_loopw [5] (fun x wr => ∃ k q : Nat, k ≤ l.length ∧ x = .int .i64 k ∧ wr = w.drewN q) (fun x _ => l.length - (intOf x).toNat)
  case atStart => exact ⟨0, 0, by omega, rfl, rfl⟩
  case round =>
    obtain ⟨k, q, hk, rfl, rfl⟩ := hrel
    by_cases hlt : k < l.length
    · obtain ⟨x, hx⟩ := get_at hlt
      obtain ⟨ga, oa, rfl, a0⟩ := HA.out.get hx
      obtain ⟨gb, ob, rfl, b0⟩ := HB.out.get hx
      clear hx
      go_wp2_with fail
      go_quiet (fail)
      go_wp2_with fail
      go_roundw
      case rel => exact ⟨k + 1, _, by omega, by go_num, rfl⟩
      case measure => simp [intOf]; omega
    · go_wp2_with fail
      go_ret
      exact ⟨rfl, below_drewN w q⟩
abbrev Tw1 (wr : World) (ga gb oa ob : Nat) (p q : Value) (X : World) : Prop := X.cell? ⟨ga, oa, none⟩ = some p ∧ X.cell? ⟨gb, ob, none⟩ = some q ∧ ga < wr.heap.size ∧ gb < wr.heap.size ∧ Below wr.heap.size wr X
theorem Tw1.b {wr X : World} {ga gb oa ob : Nat} {p q : Value} (h : Tw1 wr ga gb oa ob p q X) : Below wr.heap.size wr X := h.2.2.2.2
theorem Tw1.drew {wr X : World} {ga gb oa ob : Nat} {p q : Value} (h : Tw1 wr ga gb oa ob p q X) : Tw1 wr ga gb oa ob p q X.drew := ⟨h.1, h.2.1, h.2.2.1, h.2.2.2.1, h.2.2.2.2.drew⟩
theorem Tw1.below {wr X Y : World} {ga gb oa ob : Nat} {p q : Value} (h : Tw1 wr ga gb oa ob p q X) (hb : Below X.heap.size X Y) : Tw1 wr ga gb oa ob p q Y := by
  obtain ⟨h1, h2, h3, h4, h5⟩ := h
  have hs := h5.size
  have ha : ga < X.heap.size := by omega
  have hc : gb < X.heap.size := by omega
  refine ⟨?_, ?_, h3, h4, h5.trans (hb.mono hs)⟩ <;> rw [hb.cell (by assumption)] <;> assumption
abbrev Tw3 (wr : World) (ga gb oa ob : Nat) (p0 p1 p2 q0 q1 q2 : Value) (X : World) : Prop := X.cell? ⟨ga, oa, none⟩ = some p0 ∧ X.cell? ⟨ga, oa + 1, none⟩ = some p1 ∧ X.cell? ⟨ga, oa + 2, none⟩ = some p2 ∧ X.cell? ⟨gb, ob, none⟩ = some q0 ∧ X.cell? ⟨gb, ob + 1, none⟩ = some q1 ∧ X.cell? ⟨gb, ob + 2, none⟩ = some q2 ∧ ga < wr.heap.size ∧ gb < wr.heap.size ∧ Below wr.heap.size wr X
theorem Tw3.b {wr X : World} {ga gb oa ob : Nat} {p0 p1 p2 q0 q1 q2 : Value} (h : Tw3 wr ga gb oa ob p0 p1 p2 q0 q1 q2 X) : Below wr.heap.size wr X := h.2.2.2.2.2.2.2.2
theorem Tw3.drew {wr X : World} {ga gb oa ob : Nat} {p0 p1 p2 q0 q1 q2 : Value} (h : Tw3 wr ga gb oa ob p0 p1 p2 q0 q1 q2 X) : Tw3 wr ga gb oa ob p0 p1 p2 q0 q1 q2 X.drew := by
  obtain ⟨h1, h2, h3, h4, h5, h6, h7, h8, h9⟩ := h
  exact ⟨h1, h2, h3, h4, h5, h6, h7, h8, h9.drew⟩
theorem Tw3.below {wr X Y : World} {ga gb oa ob : Nat} {p0 p1 p2 q0 q1 q2 : Value} (h : Tw3 wr ga gb oa ob p0 p1 p2 q0 q1 q2 X) (hb : Below X.heap.size X Y) : Tw3 wr ga gb oa ob p0 p1 p2 q0 q1 q2 Y := by
  obtain ⟨h1, h2, h3, h4, h5, h6, h7, h8, h9⟩ := h
  have hs := h9.size
  have ha : ga < X.heap.size := by omega
  have hc : gb < X.heap.size := by omega
  refine ⟨?_, ?_, ?_, ?_, ?_, ?_, h7, h8, h9.trans (hb.mono hs)⟩ <;> rw [hb.cell (by assumption)] <;> assumption
set_option maxRecDepth 100000 in
set_option maxHeartbeats 3200000 in
theorem sameLists_yes {w : World} {a b : Option Addr} {l : List (List Int)} {c d : Nat} (ha : Lists w.heap.size w l (.slice a l.length c)) (hb : Lists w.heap.size w l (.slice b l.length d)) :
    Calls Try.prog 28 #[.slice a l.length c, .slice b l.length d] w fun e w' => e = .returned (.bool true) ∧ Below w.heap.size w w' := by
  have HA := hide ha
  have HB := hide hb
  have hlim := ha.lim
  clear ha hb
  go_enter Try.func28, Try.ntmps28
  go_wp2_with fail
  go_loopw [5] (fun x wr => ∃ i : Nat, i ≤ l.length ∧ x = .int .i64 i ∧ Hid (Below w.heap.size w wr)) (fun x _ => l.length - (intOf x).toNat)
  case atStart => exact ⟨0, by omega, rfl, hide (Below.refl _ w)⟩
  case round =>
    obtain ⟨i, hk, rfl, HW⟩ := hrel
    by_cases hlt : i < l.length
    · obtain ⟨x, hx⟩ := get_at hlt
      obtain ⟨ga, oa, la, lc, rfl, hga, ca, -, hll, ia⟩ := at_L (Lists.go HW.out HA.out) hx
      obtain ⟨gb, ob, lb, ld, rfl, hgb, cb, -, -, ib⟩ := at_L (Lists.go HW.out HB.out) hx
      have IA := hide ia
      have IB := hide ib
      have C := hide (fun w1 (hb' : Below wr.heap.size wr w1) => sameInts_yes (w := w1) (c := lc) (d := ld) (At1.below IA.out.at1 hb') (At1.below IB.out.at1 hb') hll)
      have HT : Tw1 wr ga gb (oa + i) (ob + i) (.slice la x.length lc) (.slice lb x.length ld) wr := ⟨ca, cb, hga, hgb, Below.refl _ _⟩
      clear hx ia ib ca cb IA IB
      go_wp2_with fail
      go_region_held3 (fun X : World => Tw1 wr ga gb (oa + i) (ob + i) (.slice la x.length lc) (.slice lb x.length ld) X) (first | exact Tw1.drew ‹_› | assumption | exact Tw1.below ‹_› ‹_›) (first | (go_at_call 20; refine (C.out _ (Tw1.b ‹_›)).mono ?_; rintro e w' ⟨rfl, hb⟩))
      rename_i hS
      go_wp2_with fail
      go_roundw
      case rel => exact ⟨i + 1, by omega, by go_num, hide (HW.out.trans ((Tw1.b hS).mono HW.out.size))⟩
      case measure => simp [intOf]; omega
    · go_wp2_with fail
      go_ret
      exact ⟨rfl, HW.out⟩
theorem two_boxes (w : World) (o1 o2 : Obj) : Below w.heap.size w ((w.alloc o1).alloc o2) ∧ ((w.alloc o1).alloc o2).heap[w.heap.size]? = some o1 ∧ ((w.alloc o1).alloc o2).heap[w.heap.size + 1]? = some o2 := by
  have hs1 : (w.alloc o1).heap.size = w.heap.size + 1 := by simp
  have hA1 : Below w.heap.size w (w.alloc o1) := below_new w o1
  refine ⟨hA1.alloc (by omega) _, (Below.heap_alloc _ o2 _ (by omega)).trans (heap_alloc_new w o1), ?_⟩
  have := heap_alloc_new (w.alloc o1) o2
  rw [hs1] at this
  exact this
set_option maxRecDepth 100000 in
set_option maxHeartbeats 3200000 in
theorem sameRule_yes {w : World} {x : RuleM} {a b : Option Addr} {c d : Nat} (ha : At1 w a (ints x.body)) (hb : At1 w b (ints x.body)) (hl : x.body.length ≤ 140737488351232) :
    Calls Try.prog 49 #[.agg #[.int .i64 x.kind, .int .i64 x.head, .slice a x.body.length c], .agg #[.int .i64 x.kind, .int .i64 x.head, .slice b x.body.length d]] w fun e w' => e = .returned (.bool true) ∧ Below w.heap.size w w' := by
  obtain ⟨hA, h1, h2⟩ := two_boxes w (.cells #[.int .i64 x.kind, .int .i64 x.head, .slice a x.body.length c] 70) (.cells #[.int .i64 x.kind, .int .i64 x.head, .slice b x.body.length d] 70)
  have HA := hide hA
  have CS := hide (sameInts_yes (c := c) (d := d) (At1.below ha hA) (At1.below hb hA) hl)
  have a0 := cell_of_row _ _ 0 _ _ _ h1
  have b0 := cell_of_row _ _ 0 _ _ _ h2
  have a1 := cell_of_row _ _ 1 _ _ _ h1
  have b1 := cell_of_row _ _ 1 _ _ _ h2
  have a2 := cell_of_row _ _ 2 _ _ _ h1
  have b2 := cell_of_row _ _ 2 _ _ _ h2
  simp only [List.getElem?_toArray, List.getElem?_cons_zero, List.getElem?_cons_succ] at a0 a1 a2 b0 b1 b2
  clear ha hb hA h1 h2
  go_enter Try.func49, Try.ntmps49
  go_upto_region 1 with fail
  generalize (w.alloc (.cells #[.int .i64 x.kind, .int .i64 x.head, .slice a x.body.length c] 70)).alloc (.cells #[.int .i64 x.kind, .int .i64 x.head, .slice b x.body.length d] 70) = w2 at *
  go_wp2_with (go_at_call 20; refine CS.out.mono ?_; rintro _ w3 ⟨rfl, hb3⟩; have HB3 := hide hb3; clear hb3)
  go_ret
  exact ⟨rfl, HA.out.trans (HB3.out.mono HA.out.size)⟩
set_option maxRecDepth 100000 in
set_option maxHeartbeats 3200000 in
theorem sameRules_yes {w : World} {a b : Option Addr} {l : List RuleM} {c d : Nat} (ha : Rules w.heap.size w l (.slice a l.length c)) (hb : Rules w.heap.size w l (.slice b l.length d)) :
    Calls Try.prog 29 #[.slice a l.length c, .slice b l.length d] w fun e w' => e = .returned (.bool true) ∧ Below w.heap.size w w' := by
  have HA := hide ha
  have HB := hide hb
  have hlim := ha.lim
  clear ha hb
  go_enter Try.func29, Try.ntmps29
  go_wp2_with fail
  go_loopw [5] (fun x wr => ∃ i : Nat, i ≤ l.length ∧ x = .int .i64 i ∧ Hid (Below w.heap.size w wr)) (fun x _ => l.length - (intOf x).toNat)
  case atStart => exact ⟨0, by omega, rfl, hide (Below.refl _ w)⟩
  case round =>
    obtain ⟨i, hk, rfl, HW⟩ := hrel
    by_cases hlt : i < l.length
    · obtain ⟨x, hx⟩ := get_at hlt
      obtain ⟨ga, oa, la, lc, rfl, hga, ca0, ca1, ca2, -, hll, ia⟩ := at_R (Rules.go HW.out HA.out) hx
      obtain ⟨gb, ob, lb, ld, rfl, hgb, cb0, cb1, cb2, -, -, ib⟩ := at_R (Rules.go HW.out HB.out) hx
      have IA := hide ia
      have IB := hide ib
      have C := hide (fun w1 (hb' : Below wr.heap.size wr w1) => sameRule_yes (w := w1) (x := x) (c := lc) (d := ld) (At1.below IA.out.at1 hb') (At1.below IB.out.at1 hb') hll)
      have HT : Tw3 wr ga gb (oa + i * 3) (ob + i * 3) (.int .i64 x.kind) (.int .i64 x.head) (.slice la x.body.length lc) (.int .i64 x.kind) (.int .i64 x.head) (.slice lb x.body.length ld) wr := ⟨ca0, ca1, ca2, cb0, cb1, cb2, hga, hgb, Below.refl _ _⟩
      clear hx ia ib ca0 ca1 ca2 cb0 cb1 cb2 IA IB
      go_wp2_with fail
      go_region_held3 (fun X : World => Tw3 wr ga gb (oa + i * 3) (ob + i * 3) (.int .i64 x.kind) (.int .i64 x.head) (.slice la x.body.length lc) (.int .i64 x.kind) (.int .i64 x.head) (.slice lb x.body.length ld) X) (first | exact Tw3.drew ‹_› | assumption | exact Tw3.below ‹_› ‹_›) (first | (go_at_call 49; refine (C.out _ (Tw3.b ‹_›)).mono ?_; rintro e w' ⟨rfl, hb⟩))
      rename_i hS
      go_wp2_with fail
      go_roundw
      case rel => exact ⟨i + 1, by omega, by go_num, hide (HW.out.trans ((Tw3.b hS).mono HW.out.size))⟩
      case measure => simp [intOf]; omega
    · go_wp2_with fail
      go_ret
      exact ⟨rfl, HW.out⟩
set_option maxRecDepth 100000 in
set_option maxHeartbeats 3200000 in
theorem sameTh_yes {w : World} {T : Th} {fa ra ba fa' ra' ba' : Option Addr} {fc rc bc fc' rc' bc' : Nat} (ha : TA w.heap.size w T fa fc ra rc ba bc) (hb : TA w.heap.size w T fa' fc' ra' rc' ba' bc') :
    Calls Try.prog 8 #[tv T fa fc ra rc ba bc, tv T fa' fc' ra' rc' ba' bc'] w fun e w' => e = .returned (.bool true) ∧ Below w.heap.size w w' := by
  obtain ⟨hA, h1, h2⟩ := two_boxes w (.cells #[.int .i64 T.lits, .slice fa T.foes.length fc, .slice ra T.rules.length rc, .slice ba T.beats.length bc] 27) (.cells #[.int .i64 T.lits, .slice fa' T.foes.length fc', .slice ra' T.rules.length rc', .slice ba' T.beats.length bc'] 27)
  have HA := hide hA
  have HL1 := hide (TR.go hA ha)
  have HL2 := hide (TR.go hA hb)
  have HX1 := hide h1
  have HX2 := hide h2
  clear ha hb hA h1 h2
  go_enter Try.func8, Try.ntmps8
  go_upto_region 1 with fail
  generalize (w.alloc (.cells #[.int .i64 T.lits, .slice fa T.foes.length fc, .slice ra T.rules.length rc, .slice ba T.beats.length bc] 27)).alloc (.cells #[.int .i64 T.lits, .slice fa' T.foes.length fc', .slice ra' T.rules.length rc', .slice ba' T.beats.length bc'] 27) = w2 at *
  obtain ⟨-, a0, a1, a2, a3⟩ := Bt.of HX1.out
  obtain ⟨-, b0, b1, b2, b3⟩ := Bt.of HX2.out
  have C1 := hide (sameLists_yes HL1.out.foes HL2.out.foes)
  have C2 := hide (fun X (hX : Below w2.heap.size w2 X) => sameRules_yes (TR.go hX HL1.out).rules (TR.go hX HL2.out).rules)
  have C3 := hide (fun X (hX : Below w2.heap.size w2 X) => sameLists_yes (TR.go hX HL1.out).beats (TR.go hX HL2.out).beats)
  have HB1 := hide (fun X (hX : Below w2.heap.size w2 X) => (hX.block _ (loc_lt HX1.out)).trans HX1.out)
  have HB2 := hide (fun X (hX : Below w2.heap.size w2 X) => (hX.block _ (loc_lt HX2.out)).trans HX2.out)
  go_wp2_with fail
  refine C1.out.mono ?_
  rintro _ w3 ⟨rfl, hb3⟩
  have HW3 := hide hb3
  obtain ⟨-, c0, c1, c2, c3⟩ := Bt.of (HB1.out _ hb3)
  obtain ⟨-, d0, d1, d2, d3⟩ := Bt.of (HB2.out _ hb3)
  clear a0 a1 a2 a3 b0 b1 b2 b3 hb3
  go_wp2_with fail
  refine (C2.out _ HW3.out).mono ?_
  rintro _ w4 ⟨rfl, hb4⟩
  have HW4 := hide (HW3.out.trans (hb4.mono HW3.out.size))
  clear c0 c1 c2 c3 d0 d1 d2 d3 hb4
  obtain ⟨-, c0, c1, c2, c3⟩ := Bt.of (HB1.out _ HW4.out)
  obtain ⟨-, d0, d1, d2, d3⟩ := Bt.of (HB2.out _ HW4.out)
  go_wp2_with fail
  refine (C3.out _ HW4.out).mono ?_
  rintro _ w5 ⟨rfl, hb5⟩
  have HW5 := hide (HW4.out.trans (hb5.mono HW4.out.size))
  clear hb5
  go_wp2_with fail
  go_ret
  exact ⟨rfl, HA.out.trans (HW5.out.mono HA.out.size)⟩
end Go.Proofs.Ytdmnoeooljofcaa
