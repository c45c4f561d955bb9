/- SameIntLists; Contains; Beats, the program's and the page's. -/
import Derived.Test.YtjaffhajehcnpaaIsC
namespace Go.Proofs.Ytjaffhajehcnpaa
open Go.RowKit

theorem Tw1.b {wr X : World} {ga gb oa ob : Nat} {p q : Value} (h : Tw1 wr ga gb oa ob p q X) : Below wr.heap.size wr X := h.2.2.2.2
theorem Tw1.drew {wr X : World} {ga gb oa ob : Nat} {p q : Value} (h : Tw1 wr ga gb oa ob p q X) : Tw1 wr ga gb oa ob p q X.drew := ⟨h.1, h.2.1, h.2.2.1, h.2.2.2.1, h.2.2.2.2.drew⟩
theorem Tw1.below {wr X Y : World} {ga gb oa ob : Nat} {p q : Value} (h : Tw1 wr ga gb oa ob p q X) (hb : Below X.heap.size X Y) : Tw1 wr ga gb oa ob p q Y := by
  obtain ⟨h1, h2, h3, h4, h5⟩ := h
  have hs := h5.size
  have ha : ga < X.heap.size := by omega
  have hc : gb < X.heap.size := by omega
  refine ⟨?_, ?_, h3, h4, h5.trans (hb.mono hs)⟩ <;> rw [hb.cell (by assumption)] <;> assumption
abbrev Tw3 (wr : World) (ga gb oa ob : Nat) (p0 p1 p2 q0 q1 q2 : Value) (X : World) : Prop := X.cell? ⟨ga, oa, none⟩ = some p0 ∧ X.cell? ⟨ga, oa + 1, none⟩ = some p1 ∧ X.cell? ⟨ga, oa + 2, none⟩ = some p2 ∧ X.cell? ⟨gb, ob, none⟩ = some q0 ∧ X.cell? ⟨gb, ob + 1, none⟩ = some q1 ∧ X.cell? ⟨gb, ob + 2, none⟩ = some q2 ∧ ga < wr.heap.size ∧ gb < wr.heap.size ∧ Below wr.heap.size wr X
theorem Tw3.b {wr X : World} {ga gb oa ob : Nat} {p0 p1 p2 q0 q1 q2 : Value} (h : Tw3 wr ga gb oa ob p0 p1 p2 q0 q1 q2 X) : Below wr.heap.size wr X := h.2.2.2.2.2.2.2.2
theorem Tw3.drew {wr X : World} {ga gb oa ob : Nat} {p0 p1 p2 q0 q1 q2 : Value} (h : Tw3 wr ga gb oa ob p0 p1 p2 q0 q1 q2 X) : Tw3 wr ga gb oa ob p0 p1 p2 q0 q1 q2 X.drew := by
  obtain ⟨h1, h2, h3, h4, h5, h6, h7, h8, h9⟩ := h
  exact ⟨h1, h2, h3, h4, h5, h6, h7, h8, h9.drew⟩
theorem Tw3.below {wr X Y : World} {ga gb oa ob : Nat} {p0 p1 p2 q0 q1 q2 : Value} (h : Tw3 wr ga gb oa ob p0 p1 p2 q0 q1 q2 X) (hb : Below X.heap.size X Y) : Tw3 wr ga gb oa ob p0 p1 p2 q0 q1 q2 Y := by
  obtain ⟨h1, h2, h3, h4, h5, h6, h7, h8, h9⟩ := h
  have hs := h9.size
  have ha : ga < X.heap.size := by omega
  have hc : gb < X.heap.size := by omega
  refine ⟨?_, ?_, ?_, ?_, ?_, ?_, h7, h8, h9.trans (hb.mono hs)⟩ <;> rw [hb.cell (by assumption)] <;> assumption
set_option maxRecDepth 100000 in
set_option maxHeartbeats 3200000 in
theorem sameLists_yes {w : World} {a b : Option Addr} {l : List (List Int)} {c d : Nat} (ha : Lists w.heap.size w l (.slice a l.length c)) (hb : Lists w.heap.size w l (.slice b l.length d)) :
    Calls Try.prog 11 #[.slice a l.length c, .slice b l.length d] w fun e w' => e = .returned (.bool true) ∧ Below w.heap.size w w' := by
  have HA := hide ha
  have HB := hide hb
  have hlim := ha.lim
  clear ha hb
  go_enter Try.func11, Try.ntmps11
  go_wp2_with fail
  go_loopw [5] (fun x wr => ∃ i : Nat, i ≤ l.length ∧ x = .int .i64 i ∧ Hid (Below w.heap.size w wr)) (fun x _ => l.length - (intOf x).toNat)
  case atStart => exact ⟨0, by omega, rfl, hide (Below.refl _ w)⟩
  case round =>
    obtain ⟨i, hk, rfl, HW⟩ := hrel
    by_cases hlt : i < l.length
    · obtain ⟨x, hx⟩ := get_at hlt
      obtain ⟨ga, oa, la, lc, rfl, hga, ca, -, hll, ia⟩ := at_L (Lists.go HW.out HA.out) hx
      obtain ⟨gb, ob, lb, ld, rfl, hgb, cb, -, -, ib⟩ := at_L (Lists.go HW.out HB.out) hx
      have IA := hide ia
      have IB := hide ib
      have C := hide (fun w1 (hb' : Below wr.heap.size wr w1) => sameInts_yes (w := w1) (c := lc) (d := ld) (At1.below IA.out.at1 hb') (At1.below IB.out.at1 hb') hll)
      have HT : Tw1 wr ga gb (oa + i) (ob + i) (.slice la x.length lc) (.slice lb x.length ld) wr := ⟨ca, cb, hga, hgb, Below.refl _ _⟩
      clear hx ia ib ca cb IA IB
      go_wp2_with fail
      go_region_held3 (fun X : World => Tw1 wr ga gb (oa + i) (ob + i) (.slice la x.length lc) (.slice lb x.length ld) X) (first | exact Tw1.drew ‹_› | assumption | exact Tw1.below ‹_› ‹_›) (first | (go_at_call 10; refine (C.out _ (Tw1.b ‹_›)).mono ?_; rintro e w' ⟨rfl, hb⟩))
      rename_i hS
      go_wp2_with fail
      go_roundw
      case rel => exact ⟨i + 1, by omega, by go_num, hide (HW.out.trans ((Tw1.b hS).mono HW.out.size))⟩
      case measure => simp [intOf]; omega
    · go_wp2_with fail
      go_ret
      exact ⟨rfl, HW.out⟩
set_option maxRecDepth 100000 in
set_option maxHeartbeats 3200000 in
theorem index_any {w : World} {a : Option Addr} {l : List Int} {c : Nat} (h : At1 w a (ints l)) (hl : l.length ≤ 140737488351232) (s : Int) :
    Calls Try.prog 27 #[.slice a l.length c, .int .i64 s] w fun e w' => ∃ i : Int, e = .returned (.int .i64 i) ∧ (0 ≤ i ↔ s ∈ l) ∧ w' = w := by
  have HA := hide h
  clear h
  go_enter Try.func27, Try.ntmps27
  go_wp2_with fail
  go_loop [8] (fun x => ∃ k : Nat, k ≤ l.length ∧ x = .int .i64 k ∧ Hid (s ∉ l.take k)) (fun x => l.length - (intOf x).toNat)
  case atStart => exact ⟨0, by omega, rfl, hide (by simp)⟩
  case round =>
    obtain ⟨k, hk, rfl, HK⟩ := hrel
    by_cases hlt : k < l.length
    · obtain ⟨g, o, rfl, kc⟩ := HA.out.int hlt
      by_cases he : l.getD k 0 = s
      · have HP := hide (take_hit hlt he)
        rw [he] at kc
        clear he HK
        go_wp2_with fail
        go_ret
        exact ⟨_, rfl, ⟨fun _ => HP.out, fun _ => by omega⟩, rfl⟩
      · have HP := hide (take_step hlt HK.out he)
        generalize l.getD k 0 = x at kc he
        have hbb : (s == x) = false := beq_eq_false_iff_ne.2 (fun e => he e.symm)
        clear he HK
        go_wp2_with fail
        go_round
        case rel => exact ⟨k + 1, by omega, by go_num, HP⟩
        case measure => simp [intOf]; omega
    · have HP : Hid (s ∉ l) := by
        have := HK.out
        rw [List.take_of_length_le (by omega)] at this
        exact this
      go_wp2_with fail
      go_ret
      exact ⟨_, rfl, ⟨fun h => absurd h (by omega), fun h => absurd h HP.out⟩, rfl⟩

set_option maxRecDepth 100000 in
set_option maxHeartbeats 1600000 in
theorem has_any {w : World} {a : Option Addr} {l : List Int} {c : Nat} (h : At1 w a (ints l)) (hl : l.length ≤ 140737488351232) (s : Int) :
    Calls Try.prog 21 #[.slice a l.length c, .int .i64 s] w fun e w' => e = .returned (.bool (decide (s ∈ l))) ∧ w' = w := by
  have C := hide (index_any (c := c) h hl s)
  clear h
  go_enter Try.func21, Try.ntmps21
  go_wp2_with fail
  refine C.out.mono ?_
  rintro _ w1 ⟨i, rfl, hi, hw⟩
  subst w1
  have HI := hide hi
  clear hi C
  go_wp2_with fail
  go_ret
  exact ⟨ret_bool (decide_eq_decide.2 HI.out), rfl⟩


def btB (B : List (List Int)) (x y : Int) : Bool := inN x B.length && edB B x.toNat y
theorem agg_cells {w : World} {u0 u1 u2 u3 : Value} {T : Nat} : (w.alloc (.cells #[u0, u1, u2, u3] T)).cell? ⟨w.heap.size, 3, none⟩ = some u3 := by
  have := (fx_new w [u0, u1, u2, u3] T).get (i := 3) rfl
  exact this
set_option maxRecDepth 100000 in
set_option maxHeartbeats 3200000 in
theorem beats_any {w : World} {B : List (List Int)} {u0 u1 u2 : Value} {ba : Option Addr} {bc : Nat} (h : Lists w.heap.size w B (.slice ba B.length bc)) (x y : Int) :
    Calls Try.prog 13 #[.agg #[u0, u1, u2, .slice ba B.length bc], .int .i64 x, .int .i64 y] w fun e w' => e = .returned (.bool (btB B x y)) ∧ Below w.heap.size w w' := by
  have hA := below_new w (.cells #[u0, u1, u2, .slice ba B.length bc] 25)
  have c3 := agg_cells (w := w) (u0 := u0) (u1 := u1) (u2 := u2) (u3 := .slice ba B.length bc) (T := 25)
  have HA := hide hA
  have HL := hide (Lists.go hA h)
  have hlim := h.lim
  clear h hA
  cases hin : inN x B.length with
  | false =>
    have HR : Hid (false = btB B x y) := hide (by unfold btB; rw [hin]; rfl)
    go_enter Try.func13, Try.ntmps13
    go_wp2_with (go_at_call 20; refine (within_any _ _ _).mono ?_; rw [hin]; rintro e w6 ⟨rfl, hw6⟩; subst w6)
    go_ret
    exact ⟨ret_bool HR.out, HA.out⟩
  | true =>
    obtain ⟨h0, h1⟩ := inN_iff.1 hin
    obtain ⟨k, rfl⟩ := Int.eq_ofNat_of_zero_le h0
    have hk : k < B.length := by omega
    obtain ⟨r, hr⟩ := get_at hk
    obtain ⟨g1, o1, a2, c2, rfl, hg1, hc1, hrc, hrl, hI⟩ := at_L HL.out hr
    have HR : Hid (decide (y ∈ r) = btB B (k : Int) y) := hide (by unfold btB edB; rw [hin, Bool.true_and, Int.toNat_natCast, List.getD_eq_getElem?_getD, hr]; rfl)
    have C := hide (has_any (c := c2) hI.at1 hrl y)
    generalize hbv : decide (y ∈ r) = bv at *
    clear hr hI hbv h0 h1
    go_enter Try.func13, Try.ntmps13
    go_wp2_with (first | (go_at_call 20; refine (within_any _ _ _).mono ?_; rw [hin]; rintro e w6 ⟨rfl, hw6⟩; subst w6) | (go_at_call 21; refine C.out.mono ?_; rintro e w7 ⟨rfl, hw7⟩; subst w7))
    go_ret
    exact ⟨ret_bool HR.out, HA.out⟩
set_option maxRecDepth 100000 in
set_option maxHeartbeats 3200000 in
theorem rbeats_any {w : World} {B : List (List Int)} {u0 u1 u2 : Value} {ba : Option Addr} {bc : Nat} (h : Lists w.heap.size w B (.slice ba B.length bc)) (x y : Int) :
    Calls Try.prog 14 #[.agg #[u0, u1, u2, .slice ba B.length bc], .int .i64 x, .int .i64 y] w fun e w' => e = .returned (.bool (btB B x y)) ∧ Below w.heap.size w w' := by
  have hA := below_new w (.cells #[u0, u1, u2, .slice ba B.length bc] 25)
  have c3 := agg_cells (w := w) (u0 := u0) (u1 := u1) (u2 := u2) (u3 := .slice ba B.length bc) (T := 25)
  have HA := hide hA
  have HL := hide (Lists.go hA h)
  have hlim := h.lim
  clear h hA
  by_cases h0 : 0 ≤ x
  · have hd0 : decide (0 ≤ x) = true := decide_eq_true h0
    obtain ⟨k, rfl⟩ := Int.eq_ofNat_of_zero_le h0
    by_cases hk : k < B.length
    · have hin : inN (k : Int) B.length = true := inN_iff.2 (by omega)
      have HR : Hid (edB B k y = btB B (k : Int) y) := hide (by unfold btB; rw [hin, Bool.true_and, Int.toNat_natCast])
      have C := hide (edge_any HL.out hk rfl y)
      have hd1 : decide ((k : Int) < B.length) = true := decide_eq_true (by omega)
      generalize edB B k y = bv at *
      clear hin h0
      go_enter Try.func14, Try.ntmps14
      go_wp2_with (go_at_call 19; refine C.out.mono ?_; rintro e w7 ⟨rfl, hw7⟩; subst w7)
      go_ret
      exact ⟨ret_bool HR.out, HA.out⟩
    · have hd1 : decide ((k : Int) < B.length) = false := decide_eq_false (by omega)
      have HR : Hid (false = btB B (k : Int) y) := hide (by unfold btB inN; rw [hd1]; simp)
      clear h0
      go_enter Try.func14, Try.ntmps14
      go_wp2_with fail
      go_ret
      exact ⟨ret_bool HR.out, HA.out⟩
  · have hd0 : decide (0 ≤ x) = false := decide_eq_false h0
    have HR : Hid (false = btB B x y) := hide (by unfold btB inN; rw [hd0]; simp)
    go_enter Try.func14, Try.ntmps14
    go_wp2_with fail
    go_ret
    exact ⟨ret_bool HR.out, HA.out⟩
end Go.Proofs.Ytjaffhajehcnpaa
