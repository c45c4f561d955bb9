/- Two lists of the same plain things are the same. By program (tools/gen8/samz9.py). -/
import Derived.Test.YtfnobccminhjpaaGreatBx9
import Derived.Deep.RegionHeld3
import Derived.Laws.StructEq
namespace Go.Proofs.YtfnobccminhjpaaGreat
open Go.RowKit Go.Shelf Go.Maps Go.WideMaps
set_option maxRecDepth 100000 in
set_option maxHeartbeats 3200000 in
theorem sameS_z {w : World} {N N' : Nat} {a b : Option Addr} {l : List (Bytes)} {c d : Nat} (ha : RR N 1 cS w l (.slice a l.length c)) (hb : RR N' 1 cS w l (.slice b l.length d)) :
    Calls Tryz.prog 13 #[.slice a l.length c, .slice b l.length d] w fun e w' => e = .returned (.bool true) ∧ ∃ q, w' = w.drewN q := by
  have HA := hide ha
  have HB := hide hb
  have hlim := ha.lim
  clear ha hb
  go_enter Tryz.func13, Tryz.ntmps13
  go_wp2_with fail
  go_loopw [5] (fun x wr => ∃ i q : Nat, i ≤ l.length ∧ x = .int .i64 i ∧ wr = w.drewN q) (fun x _ => l.length - (intOf x).toNat)
  case atStart => exact ⟨0, 0, by omega, rfl, rfl⟩
  case round =>
    obtain ⟨i, q, hk, rfl, rfl⟩ := hrel
    by_cases hlt : i < l.length
    · obtain ⟨x, hx⟩ : ∃ x, l[i]? = some x := ⟨l[i], List.getElem?_eq_getElem hlt⟩
      obtain ⟨ga, oa, ys, rfl, _, _, hca, hcx⟩ := RR.open HA.out hx
      obtain ⟨gb, ob, zs, rfl, _, _, hcb, hcy⟩ := RR.open HB.out hx
      obtain ⟨rfl, _⟩ := hcx
      obtain ⟨rfl, _⟩ := hcy
      have a0 : w.cell? ⟨ga, oa + i, none⟩ = some (str x) := by have := hca 0 _ rfl; simpa using this
      have b0 : w.cell? ⟨gb, ob + i, none⟩ = some (str x) := by have := hcb 0 _ rfl; simpa using this
      clear hca hcb hx
      unfold str at *
      go_wp2_with fail
      go_quiet (fail)
      go_wp2_with fail
      go_roundw
      case rel => exact ⟨i + 1, _, by omega, by go_num, rfl⟩
      case measure => simp [intOf]; omega
    · go_wp2_with fail
      go_ret
      exact ⟨rfl, q, rfl⟩
set_option maxRecDepth 100000 in
set_option maxHeartbeats 3200000 in
theorem sameV_z {w : World} {N N' : Nat} {a b : Option Addr} {l : List (Int)} {c d : Nat} (ha : RR N 1 cI w l (.slice a l.length c)) (hb : RR N' 1 cI w l (.slice b l.length d)) :
    Calls Tryz.prog 164 #[.slice a l.length c, .slice b l.length d] w fun e w' => e = .returned (.bool true) ∧ ∃ q, w' = w.drewN q := by
  have HA := hide ha
  have HB := hide hb
  have hlim := ha.lim
  clear ha hb
  go_enter Tryz.func164, Tryz.ntmps164
  go_wp2_with fail
  go_loopw [5] (fun x wr => ∃ i q : Nat, i ≤ l.length ∧ x = .int .i64 i ∧ wr = w.drewN q) (fun x _ => l.length - (intOf x).toNat)
  case atStart => exact ⟨0, 0, by omega, rfl, rfl⟩
  case round =>
    obtain ⟨i, q, hk, rfl, rfl⟩ := hrel
    by_cases hlt : i < l.length
    · obtain ⟨x, hx⟩ : ∃ x, l[i]? = some x := ⟨l[i], List.getElem?_eq_getElem hlt⟩
      obtain ⟨ga, oa, ys, rfl, _, _, hca, hcx⟩ := RR.open HA.out hx
      obtain ⟨gb, ob, zs, rfl, _, _, hcb, hcy⟩ := RR.open HB.out hx
      obtain rfl := hcx
      obtain rfl := hcy
      have a0 : w.cell? ⟨ga, oa + i, none⟩ = some (.int .i64 x) := by have := hca 0 _ rfl; simpa using this
      have b0 : w.cell? ⟨gb, ob + i, none⟩ = some (.int .i64 x) := by have := hcb 0 _ rfl; simpa using this
      clear hca hcb hx
      unfold str at *
      go_wp2_with fail
      go_quiet (fail)
      go_wp2_with fail
      go_roundw
      case rel => exact ⟨i + 1, _, by omega, by go_num, rfl⟩
      case measure => simp [intOf]; omega
    · go_wp2_with fail
      go_ret
      exact ⟨rfl, q, rfl⟩
set_option maxRecDepth 100000 in
set_option maxHeartbeats 3200000 in
theorem sameM_z {w : World} {N N' : Nat} {a b : Option Addr} {l : List (Bytes × Bytes)} {c d : Nat} (ha : RR N 2 cM w l (.slice a l.length c)) (hb : RR N' 2 cM w l (.slice b l.length d)) :
    Calls Tryz.prog 60 #[.slice a l.length c, .slice b l.length d] w fun e w' => e = .returned (.bool true) ∧ ∃ q, w' = w.drewN q := by
  have HA := hide ha
  have HB := hide hb
  have hlim := ha.lim
  clear ha hb
  go_enter Tryz.func60, Tryz.ntmps60
  go_wp2_with fail
  go_loopw [5] (fun x wr => ∃ i q : Nat, i ≤ l.length ∧ x = .int .i64 i ∧ wr = w.drewN q) (fun x _ => l.length - (intOf x).toNat)
  case atStart => exact ⟨0, 0, by omega, rfl, rfl⟩
  case round =>
    obtain ⟨i, q, hk, rfl, rfl⟩ := hrel
    by_cases hlt : i < l.length
    · obtain ⟨x, hx⟩ : ∃ x, l[i]? = some x := ⟨l[i], List.getElem?_eq_getElem hlt⟩
      obtain ⟨ga, oa, ys, rfl, _, _, hca, hcx⟩ := RR.open HA.out hx
      obtain ⟨gb, ob, zs, rfl, _, _, hcb, hcy⟩ := RR.open HB.out hx
      obtain ⟨rfl, _, _⟩ := hcx
      obtain ⟨rfl, _, _⟩ := hcy
      have a0 : w.cell? ⟨ga, oa + i * 2, none⟩ = some (str x.1) := hca 0 _ rfl
      have a1 : w.cell? ⟨ga, oa + i * 2 + 1, none⟩ = some (str x.2) := hca 1 _ rfl
      have b0 : w.cell? ⟨gb, ob + i * 2, none⟩ = some (str x.1) := hcb 0 _ rfl
      have b1 : w.cell? ⟨gb, ob + i * 2 + 1, none⟩ = some (str x.2) := hcb 1 _ rfl
      clear hca hcb hx
      unfold str at *
      go_wp2_with fail
      go_quiet (fail)
      go_wp2_with fail
      go_roundw
      case rel => exact ⟨i + 1, _, by omega, by go_num, rfl⟩
      case measure => simp [intOf]; omega
    · go_wp2_with fail
      go_ret
      exact ⟨rfl, q, rfl⟩
set_option maxRecDepth 100000 in
set_option maxHeartbeats 3200000 in
theorem sameE_z {w : World} {N N' : Nat} {a b : Option Addr} {l : List (Bytes × Bytes)} {c d : Nat} (ha : RR N 2 cM w l (.slice a l.length c)) (hb : RR N' 2 cM w l (.slice b l.length d)) :
    Calls Tryz.prog 65 #[.slice a l.length c, .slice b l.length d] w fun e w' => e = .returned (.bool true) ∧ ∃ q, w' = w.drewN q := by
  have HA := hide ha
  have HB := hide hb
  have hlim := ha.lim
  clear ha hb
  go_enter Tryz.func65, Tryz.ntmps65
  go_wp2_with fail
  go_loopw [5] (fun x wr => ∃ i q : Nat, i ≤ l.length ∧ x = .int .i64 i ∧ wr = w.drewN q) (fun x _ => l.length - (intOf x).toNat)
  case atStart => exact ⟨0, 0, by omega, rfl, rfl⟩
  case round =>
    obtain ⟨i, q, hk, rfl, rfl⟩ := hrel
    by_cases hlt : i < l.length
    · obtain ⟨x, hx⟩ : ∃ x, l[i]? = some x := ⟨l[i], List.getElem?_eq_getElem hlt⟩
      obtain ⟨ga, oa, ys, rfl, _, _, hca, hcx⟩ := RR.open HA.out hx
      obtain ⟨gb, ob, zs, rfl, _, _, hcb, hcy⟩ := RR.open HB.out hx
      obtain ⟨rfl, _, _⟩ := hcx
      obtain ⟨rfl, _, _⟩ := hcy
      have a0 : w.cell? ⟨ga, oa + i * 2, none⟩ = some (str x.1) := hca 0 _ rfl
      have a1 : w.cell? ⟨ga, oa + i * 2 + 1, none⟩ = some (str x.2) := hca 1 _ rfl
      have b0 : w.cell? ⟨gb, ob + i * 2, none⟩ = some (str x.1) := hcb 0 _ rfl
      have b1 : w.cell? ⟨gb, ob + i * 2 + 1, none⟩ = some (str x.2) := hcb 1 _ rfl
      clear hca hcb hx
      unfold str at *
      go_wp2_with fail
      go_quiet (fail)
      go_wp2_with fail
      go_roundw
      case rel => exact ⟨i + 1, _, by omega, by go_num, rfl⟩
      case measure => simp [intOf]; omega
    · go_wp2_with fail
      go_ret
      exact ⟨rfl, q, rfl⟩
set_option maxRecDepth 100000 in
set_option maxHeartbeats 3200000 in
theorem sameSr_z {w : World} {N N' : Nat} {a b : Option Addr} {l : List (Bytes × Int)} {c d : Nat} (ha : RR N 2 cSrc w l (.slice a l.length c)) (hb : RR N' 2 cSrc w l (.slice b l.length d)) :
    Calls Tryz.prog 63 #[.slice a l.length c, .slice b l.length d] w fun e w' => e = .returned (.bool true) ∧ ∃ q, w' = w.drewN q := by
  have HA := hide ha
  have HB := hide hb
  have hlim := ha.lim
  clear ha hb
  go_enter Tryz.func63, Tryz.ntmps63
  go_wp2_with fail
  go_loopw [5] (fun x wr => ∃ i q : Nat, i ≤ l.length ∧ x = .int .i64 i ∧ wr = w.drewN q) (fun x _ => l.length - (intOf x).toNat)
  case atStart => exact ⟨0, 0, by omega, rfl, rfl⟩
  case round =>
    obtain ⟨i, q, hk, rfl, rfl⟩ := hrel
    by_cases hlt : i < l.length
    · obtain ⟨x, hx⟩ : ∃ x, l[i]? = some x := ⟨l[i], List.getElem?_eq_getElem hlt⟩
      obtain ⟨ga, oa, ys, rfl, _, _, hca, hcx⟩ := RR.open HA.out hx
      obtain ⟨gb, ob, zs, rfl, _, _, hcb, hcy⟩ := RR.open HB.out hx
      obtain ⟨rfl, _⟩ := hcx
      obtain ⟨rfl, _⟩ := hcy
      have a0 : w.cell? ⟨ga, oa + i * 2, none⟩ = some (str x.1) := hca 0 _ rfl
      have a1 : w.cell? ⟨ga, oa + i * 2 + 1, none⟩ = some (.int .i64 x.2) := hca 1 _ rfl
      have b0 : w.cell? ⟨gb, ob + i * 2, none⟩ = some (str x.1) := hcb 0 _ rfl
      have b1 : w.cell? ⟨gb, ob + i * 2 + 1, none⟩ = some (.int .i64 x.2) := hcb 1 _ rfl
      clear hca hcb hx
      unfold str at *
      go_wp2_with fail
      go_quiet (fail)
      go_wp2_with fail
      go_roundw
      case rel => exact ⟨i + 1, _, by omega, by go_num, rfl⟩
      case measure => simp [intOf]; omega
    · go_wp2_with fail
      go_ret
      exact ⟨rfl, q, rfl⟩
abbrev Tw1 (wr : World) (ga gb oa ob : Nat) (p0 q0 : Value) (X : World) : Prop :=
  X.cell? ⟨ga, oa, none⟩ = some p0 ∧ X.cell? ⟨gb, ob, none⟩ = some q0 ∧ ga < wr.heap.size ∧ gb < wr.heap.size ∧ Below wr.heap.size wr X
theorem Tw1.b {wr : World} {ga gb oa ob : Nat} {p0 q0 : Value} {X : World} (h : Tw1 wr ga gb oa ob p0 q0 X) : Below wr.heap.size wr X := h.2.2.2.2
theorem Tw1.drew {wr : World} {ga gb oa ob : Nat} {p0 q0 : Value} {X : World} (h : Tw1 wr ga gb oa ob p0 q0 X) : Tw1 wr ga gb oa ob p0 q0 X.drew := by
  obtain ⟨h0, h1, k1, k2, k3⟩ := h
  exact ⟨h0, h1, k1, k2, k3.drew⟩
theorem Tw1.below {wr : World} {ga gb oa ob : Nat} {p0 q0 : Value} {X Y : World} (h : Tw1 wr ga gb oa ob p0 q0 X) (hb : Below X.heap.size X Y) : Tw1 wr ga gb oa ob p0 q0 Y := by
  obtain ⟨h0, h1, k1, k2, k3⟩ := h
  have ha : ga < X.heap.size := Nat.lt_of_lt_of_le k1 k3.size
  have hc : gb < X.heap.size := Nat.lt_of_lt_of_le k2 k3.size
  refine ⟨?_, ?_, k1, k2, k3.trans (hb.mono k3.size)⟩ <;> rw [hb.cell (by assumption)] <;> assumption
abbrev Tw4 (wr : World) (ga gb oa ob : Nat) (p0 p1 p2 p3 q0 q1 q2 q3 : Value) (X : World) : Prop :=
  X.cell? ⟨ga, oa, none⟩ = some p0 ∧ X.cell? ⟨ga, oa + 1, none⟩ = some p1 ∧ X.cell? ⟨ga, oa + 2, none⟩ = some p2 ∧ X.cell? ⟨ga, oa + 3, none⟩ = some p3 ∧ X.cell? ⟨gb, ob, none⟩ = some q0 ∧ X.cell? ⟨gb, ob + 1, none⟩ = some q1 ∧ X.cell? ⟨gb, ob + 2, none⟩ = some q2 ∧ X.cell? ⟨gb, ob + 3, none⟩ = some q3 ∧ ga < wr.heap.size ∧ gb < wr.heap.size ∧ Below wr.heap.size wr X
theorem Tw4.b {wr : World} {ga gb oa ob : Nat} {p0 p1 p2 p3 q0 q1 q2 q3 : Value} {X : World} (h : Tw4 wr ga gb oa ob p0 p1 p2 p3 q0 q1 q2 q3 X) : Below wr.heap.size wr X := h.2.2.2.2.2.2.2.2.2.2
theorem Tw4.drew {wr : World} {ga gb oa ob : Nat} {p0 p1 p2 p3 q0 q1 q2 q3 : Value} {X : World} (h : Tw4 wr ga gb oa ob p0 p1 p2 p3 q0 q1 q2 q3 X) : Tw4 wr ga gb oa ob p0 p1 p2 p3 q0 q1 q2 q3 X.drew := by
  obtain ⟨h0, h1, h2, h3, h4, h5, h6, h7, k1, k2, k3⟩ := h
  exact ⟨h0, h1, h2, h3, h4, h5, h6, h7, k1, k2, k3.drew⟩
theorem Tw4.below {wr : World} {ga gb oa ob : Nat} {p0 p1 p2 p3 q0 q1 q2 q3 : Value} {X Y : World} (h : Tw4 wr ga gb oa ob p0 p1 p2 p3 q0 q1 q2 q3 X) (hb : Below X.heap.size X Y) : Tw4 wr ga gb oa ob p0 p1 p2 p3 q0 q1 q2 q3 Y := by
  obtain ⟨h0, h1, h2, h3, h4, h5, h6, h7, k1, k2, k3⟩ := h
  have ha : ga < X.heap.size := Nat.lt_of_lt_of_le k1 k3.size
  have hc : gb < X.heap.size := Nat.lt_of_lt_of_le k2 k3.size
  refine ⟨?_, ?_, ?_, ?_, ?_, ?_, ?_, ?_, k1, k2, k3.trans (hb.mono k3.size)⟩ <;> rw [hb.cell (by assumption)] <;> assumption
abbrev Tw5 (wr : World) (ga gb oa ob : Nat) (p0 p1 p2 p3 p4 q0 q1 q2 q3 q4 : Value) (X : World) : Prop :=
  X.cell? ⟨ga, oa, none⟩ = some p0 ∧ X.cell? ⟨ga, oa + 1, none⟩ = some p1 ∧ X.cell? ⟨ga, oa + 2, none⟩ = some p2 ∧ X.cell? ⟨ga, oa + 3, none⟩ = some p3 ∧ X.cell? ⟨ga, oa + 4, none⟩ = some p4 ∧ X.cell? ⟨gb, ob, none⟩ = some q0 ∧ X.cell? ⟨gb, ob + 1, none⟩ = some q1 ∧ X.cell? ⟨gb, ob + 2, none⟩ = some q2 ∧ X.cell? ⟨gb, ob + 3, none⟩ = some q3 ∧ X.cell? ⟨gb, ob + 4, none⟩ = some q4 ∧ ga < wr.heap.size ∧ gb < wr.heap.size ∧ Below wr.heap.size wr X
theorem Tw5.b {wr : World} {ga gb oa ob : Nat} {p0 p1 p2 p3 p4 q0 q1 q2 q3 q4 : Value} {X : World} (h : Tw5 wr ga gb oa ob p0 p1 p2 p3 p4 q0 q1 q2 q3 q4 X) : Below wr.heap.size wr X := h.2.2.2.2.2.2.2.2.2.2.2.2
theorem Tw5.drew {wr : World} {ga gb oa ob : Nat} {p0 p1 p2 p3 p4 q0 q1 q2 q3 q4 : Value} {X : World} (h : Tw5 wr ga gb oa ob p0 p1 p2 p3 p4 q0 q1 q2 q3 q4 X) : Tw5 wr ga gb oa ob p0 p1 p2 p3 p4 q0 q1 q2 q3 q4 X.drew := by
  obtain ⟨h0, h1, h2, h3, h4, h5, h6, h7, h8, h9, k1, k2, k3⟩ := h
  exact ⟨h0, h1, h2, h3, h4, h5, h6, h7, h8, h9, k1, k2, k3.drew⟩
theorem Tw5.below {wr : World} {ga gb oa ob : Nat} {p0 p1 p2 p3 p4 q0 q1 q2 q3 q4 : Value} {X Y : World} (h : Tw5 wr ga gb oa ob p0 p1 p2 p3 p4 q0 q1 q2 q3 q4 X) (hb : Below X.heap.size X Y) : Tw5 wr ga gb oa ob p0 p1 p2 p3 p4 q0 q1 q2 q3 q4 Y := by
  obtain ⟨h0, h1, h2, h3, h4, h5, h6, h7, h8, h9, k1, k2, k3⟩ := h
  have ha : ga < X.heap.size := Nat.lt_of_lt_of_le k1 k3.size
  have hc : gb < X.heap.size := Nat.lt_of_lt_of_le k2 k3.size
  refine ⟨?_, ?_, ?_, ?_, ?_, ?_, ?_, ?_, ?_, ?_, k1, k2, k3.trans (hb.mono k3.size)⟩ <;> rw [hb.cell (by assumption)] <;> assumption
abbrev Tw11 (wr : World) (ga gb oa ob : Nat) (p0 p1 p2 p3 p4 p5 p6 p7 p8 p9 p10 q0 q1 q2 q3 q4 q5 q6 q7 q8 q9 q10 : Value) (X : World) : Prop :=
  X.cell? ⟨ga, oa, none⟩ = some p0 ∧ X.cell? ⟨ga, oa + 1, none⟩ = some p1 ∧ X.cell? ⟨ga, oa + 2, none⟩ = some p2 ∧ X.cell? ⟨ga, oa + 3, none⟩ = some p3 ∧ X.cell? ⟨ga, oa + 4, none⟩ = some p4 ∧ X.cell? ⟨ga, oa + 5, none⟩ = some p5 ∧ X.cell? ⟨ga, oa + 6, none⟩ = some p6 ∧ X.cell? ⟨ga, oa + 7, none⟩ = some p7 ∧ X.cell? ⟨ga, oa + 8, none⟩ = some p8 ∧ X.cell? ⟨ga, oa + 9, none⟩ = some p9 ∧ X.cell? ⟨ga, oa + 10, none⟩ = some p10 ∧ X.cell? ⟨gb, ob, none⟩ = some q0 ∧ X.cell? ⟨gb, ob + 1, none⟩ = some q1 ∧ X.cell? ⟨gb, ob + 2, none⟩ = some q2 ∧ X.cell? ⟨gb, ob + 3, none⟩ = some q3 ∧ X.cell? ⟨gb, ob + 4, none⟩ = some q4 ∧ X.cell? ⟨gb, ob + 5, none⟩ = some q5 ∧ X.cell? ⟨gb, ob + 6, none⟩ = some q6 ∧ X.cell? ⟨gb, ob + 7, none⟩ = some q7 ∧ X.cell? ⟨gb, ob + 8, none⟩ = some q8 ∧ X.cell? ⟨gb, ob + 9, none⟩ = some q9 ∧ X.cell? ⟨gb, ob + 10, none⟩ = some q10 ∧ ga < wr.heap.size ∧ gb < wr.heap.size ∧ Below wr.heap.size wr X
theorem Tw11.b {wr : World} {ga gb oa ob : Nat} {p0 p1 p2 p3 p4 p5 p6 p7 p8 p9 p10 q0 q1 q2 q3 q4 q5 q6 q7 q8 q9 q10 : Value} {X : World} (h : Tw11 wr ga gb oa ob p0 p1 p2 p3 p4 p5 p6 p7 p8 p9 p10 q0 q1 q2 q3 q4 q5 q6 q7 q8 q9 q10 X) : Below wr.heap.size wr X := h.2.2.2.2.2.2.2.2.2.2.2.2.2.2.2.2.2.2.2.2.2.2.2.2
theorem Tw11.drew {wr : World} {ga gb oa ob : Nat} {p0 p1 p2 p3 p4 p5 p6 p7 p8 p9 p10 q0 q1 q2 q3 q4 q5 q6 q7 q8 q9 q10 : Value} {X : World} (h : Tw11 wr ga gb oa ob p0 p1 p2 p3 p4 p5 p6 p7 p8 p9 p10 q0 q1 q2 q3 q4 q5 q6 q7 q8 q9 q10 X) : Tw11 wr ga gb oa ob p0 p1 p2 p3 p4 p5 p6 p7 p8 p9 p10 q0 q1 q2 q3 q4 q5 q6 q7 q8 q9 q10 X.drew := by
  obtain ⟨h0, h1, h2, h3, h4, h5, h6, h7, h8, h9, h10, h11, h12, h13, h14, h15, h16, h17, h18, h19, h20, h21, k1, k2, k3⟩ := h
  exact ⟨h0, h1, h2, h3, h4, h5, h6, h7, h8, h9, h10, h11, h12, h13, h14, h15, h16, h17, h18, h19, h20, h21, k1, k2, k3.drew⟩
theorem Tw11.below {wr : World} {ga gb oa ob : Nat} {p0 p1 p2 p3 p4 p5 p6 p7 p8 p9 p10 q0 q1 q2 q3 q4 q5 q6 q7 q8 q9 q10 : Value} {X Y : World} (h : Tw11 wr ga gb oa ob p0 p1 p2 p3 p4 p5 p6 p7 p8 p9 p10 q0 q1 q2 q3 q4 q5 q6 q7 q8 q9 q10 X) (hb : Below X.heap.size X Y) : Tw11 wr ga gb oa ob p0 p1 p2 p3 p4 p5 p6 p7 p8 p9 p10 q0 q1 q2 q3 q4 q5 q6 q7 q8 q9 q10 Y := by
  obtain ⟨h0, h1, h2, h3, h4, h5, h6, h7, h8, h9, h10, h11, h12, h13, h14, h15, h16, h17, h18, h19, h20, h21, k1, k2, k3⟩ := h
  have ha : ga < X.heap.size := Nat.lt_of_lt_of_le k1 k3.size
  have hc : gb < X.heap.size := Nat.lt_of_lt_of_le k2 k3.size
  refine ⟨?_, ?_, ?_, ?_, ?_, ?_, ?_, ?_, ?_, ?_, ?_, ?_, ?_, ?_, ?_, ?_, ?_, ?_, ?_, ?_, ?_, ?_, k1, k2, k3.trans (hb.mono k3.size)⟩ <;> rw [hb.cell (by assumption)] <;> assumption
end Go.Proofs.YtfnobccminhjpaaGreat
