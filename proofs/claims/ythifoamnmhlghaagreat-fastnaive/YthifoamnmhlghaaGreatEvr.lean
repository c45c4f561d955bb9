/- every, some: a list's numbers put to a test. -/
import Derived.Test.YthifoamnmhlghaaGreatHrow
namespace Go.Proofs.YthifoamnmhlghaaGreat
open Go.RowKit

/-- A function value that answers a test of such numbers, whatever is made meanwhile. -/
def Ts (w : World) (p : Int → Bool) (D : Int → Prop) (v : Value) : Prop :=
  ∃ (k : Nat) (caps : Array Value), v = .func (.func k) #[] caps ∧ (∀ args w', (callFunc k args).run Tryz.prog w' = .ok (.enter k args) w') ∧
    ∀ (x : Int) (w' : World), D x → Below w.heap.size w w' → Calls Tryz.prog k (#[.int .i64 x] ++ caps) w' fun e w2 => e = .returned (.bool (p x)) ∧ Below w'.heap.size w' w2
theorem Ts.go {w w' : World} {p : Int → Bool} {D : Int → Prop} {v : Value} (h : Ts w p D v) (hb : Below w.heap.size w w') : Ts w' p D v := by
  obtain ⟨k, caps, e, hf, hc⟩ := h
  exact ⟨k, caps, e, hf, fun x w2 hx h2 => hc x w2 hx (hb.trans (h2.mono hb.size))⟩
theorem all_yes {p : Int → Bool} {l : List Int} {k : Nat} {x : Int} (hx : l[k]? = some x) (h : p x = true) : (l.drop k).all p = (l.drop (k + 1)).all p := by rw [drop_at hx, List.all_cons, h, Bool.true_and]
theorem all_no {p : Int → Bool} {l : List Int} {k : Nat} {x : Int} (hx : l[k]? = some x) (h : p x = false) : (l.drop k).all p = false := by rw [drop_at hx, List.all_cons, h, Bool.false_and]
theorem any_yes {p : Int → Bool} {l : List Int} {k : Nat} {x : Int} (hx : l[k]? = some x) (h : p x = true) : (l.drop k).any p = true := by rw [drop_at hx, List.any_cons, h, Bool.true_or]
theorem any_no {p : Int → Bool} {l : List Int} {k : Nat} {x : Int} (hx : l[k]? = some x) (h : p x = false) : (l.drop k).any p = (l.drop (k + 1)).any p := by rw [drop_at hx, List.any_cons, h, Bool.false_or]
section
variable {w : World} {p : Int → Bool} {D : Int → Prop} {v : Value} {l : List Int} {a : Option Addr} {c : Nat}
set_option maxRecDepth 100000 in
set_option maxHeartbeats 3200000 in
theorem every_any (h : Ts w p D v) (hl : At1 w a (ints l)) (hlim : l.length ≤ 140737488351232) (hin : ∀ x ∈ l, D x) :
    Calls Tryz.prog 87 #[.slice a l.length c, v] w fun e w' => e = .returned (.bool (l.all p)) ∧ Below w.heap.size w w' := by
  obtain ⟨fn, caps, rfl, hf, hc⟩ := h
  have HC := hide hc
  have HL := hide hl
  have HIN := hide hin
  obtain ⟨o, ho⟩ : ∃ o, l.all p = o := ⟨_, rfl⟩
  rw [ho]
  have HO : Hid ((l.drop 0).all p = o) := hide (by rw [List.drop_zero]; exact ho)
  clear hl hin ho hc
  go_enter Tryz.func87, Tryz.ntmps87
  go_wp2_with fail
  go_loopw [9] (fun x wr => ∃ k : Nat, k ≤ l.length ∧ x = .int .i64 k ∧ Hid ((l.drop k).all p = o) ∧ Hid (Below w.heap.size w wr)) (fun x _ => l.length - (intOf x).toNat)
  case atStart => exact ⟨0, by omega, rfl, HO, hide (Below.refl _ _)⟩
  case round =>
    clear HO
    obtain ⟨k, hk, rfl, HO, HB⟩ := hrel
    by_cases hlt : k < l.length
    · obtain ⟨x, hx⟩ := get_at hlt
      obtain ⟨g, gg, rfl, cx⟩ := (HL.out.below HB.out).get hx
      have C := hide (HC.out x wr (HIN.out x (List.mem_of_getElem? hx)) HB.out)
      cases hb : p x with
      | true =>
        have HE : Hid ((l.drop (k + 1)).all p = o) := hide (by rw [← HO.out]; exact (all_yes hx hb).symm)
        rw [hb] at C
        clear hb hx HO
        go_wp2_with fail
        refine C.out.mono ?_
        rintro _ w2 ⟨rfl, hb2⟩
        have HB2 := hide (HB.out.trans (hb2.mono HB.out.size))
        clear hb2
        go_wp2_with fail
        go_roundw
        case rel => exact ⟨k + 1, by omega, by go_num, HE, HB2⟩
        case measure => simp [intOf]; omega
      | false =>
        have HE : Hid (o = false) := hide (by rw [← HO.out]; exact all_no hx hb)
        rw [hb] at C
        clear hb hx HO
        go_wp2_with fail
        refine C.out.mono ?_
        rintro _ w2 ⟨rfl, hb2⟩
        have HB2 := hide (HB.out.trans (hb2.mono HB.out.size))
        clear hb2
        go_wp2_with fail
        go_ret
        exact ⟨by rw [HE.out]; rfl, HB2.out⟩
    · have HE : Hid (o = true) := hide (by rw [← HO.out, drop_end (by omega)]; rfl)
      go_wp2_with fail
      go_ret
      exact ⟨by rw [HE.out]; rfl, HB.out⟩
/-- The first place with it, or below none. -/
def IxA (o : Bool) (i : Int) : Prop := (o = true → 0 ≤ i) ∧ (o = false → i = -1)
set_option maxRecDepth 100000 in
set_option maxHeartbeats 3200000 in
theorem index_ts (h : Ts w p D v) (hl : At1 w a (ints l)) (hlim : l.length ≤ 140737488351232) (hin : ∀ x ∈ l, D x) :
    Calls Tryz.prog 106 #[.slice a l.length c, v] w fun e w' => ∃ i : Int, e = .returned (.int .i64 i) ∧ IxA (l.any p) i ∧ Below w.heap.size w w' := by
  obtain ⟨fn, caps, rfl, hf, hc⟩ := h
  have HC := hide hc
  have HL := hide hl
  have HIN := hide hin
  obtain ⟨o, ho⟩ : ∃ o, l.any p = o := ⟨_, rfl⟩
  rw [ho]
  have HO : Hid ((l.drop 0).any p = o) := hide (by rw [List.drop_zero]; exact ho)
  clear hl hin ho hc
  go_enter Tryz.func106, Tryz.ntmps106
  go_wp2_with fail
  go_loopw [8] (fun x wr => ∃ k : Nat, k ≤ l.length ∧ x = .int .i64 k ∧ Hid ((l.drop k).any p = o) ∧ Hid (Below w.heap.size w wr)) (fun x _ => l.length - (intOf x).toNat)
  case atStart => exact ⟨0, by omega, rfl, HO, hide (Below.refl _ _)⟩
  case round =>
    clear HO
    obtain ⟨k, hk, rfl, HO, HB⟩ := hrel
    by_cases hlt : k < l.length
    · obtain ⟨x, hx⟩ := get_at hlt
      obtain ⟨g, gg, rfl, cx⟩ := (HL.out.below HB.out).get hx
      have C := hide (HC.out x wr (HIN.out x (List.mem_of_getElem? hx)) HB.out)
      cases hb : p x with
      | true =>
        have HE : Hid (o = true) := hide (by rw [← HO.out]; exact any_yes hx hb)
        rw [hb] at C
        clear hb hx HO
        go_wp2_with fail
        refine C.out.mono ?_
        rintro _ w2 ⟨rfl, hb2⟩
        have HB2 := hide (HB.out.trans (hb2.mono HB.out.size))
        clear hb2
        go_wp2_with fail
        go_ret
        exact ⟨k, rfl, ⟨fun _ => by omega, fun e => by rw [HE.out] at e; cases e⟩, HB2.out⟩
      | false =>
        have HE : Hid ((l.drop (k + 1)).any p = o) := hide (by rw [← HO.out]; exact (any_no hx hb).symm)
        rw [hb] at C
        clear hb hx HO
        go_wp2_with fail
        refine C.out.mono ?_
        rintro _ w2 ⟨rfl, hb2⟩
        have HB2 := hide (HB.out.trans (hb2.mono HB.out.size))
        clear hb2
        go_wp2_with fail
        go_roundw
        case rel => exact ⟨k + 1, by omega, by go_num, HE, HB2⟩
        case measure => simp [intOf]; omega
    · have HE : Hid (o = false) := hide (by rw [← HO.out, drop_end (by omega)]; rfl)
      go_wp2_with fail
      go_ret
      exact ⟨-1, rfl, ⟨fun e => absurd e (by rw [HE.out]; decide), fun _ => rfl⟩, HB.out⟩
set_option maxRecDepth 100000 in
set_option maxHeartbeats 3200000 in
theorem contains_ts (h : Ts w p D v) (hl : At1 w a (ints l)) (hlim : l.length ≤ 140737488351232) (hin : ∀ x ∈ l, D x) :
    Calls Tryz.prog 78 #[.slice a l.length c, v] w fun e w' => e = .returned (.bool (l.any p)) ∧ Below w.heap.size w w' := by
  have CI := hide (index_ts (c := c) h hl hlim hin)
  obtain ⟨fn, caps, rfl, hf, hc⟩ := h
  obtain ⟨o, ho⟩ : ∃ o, l.any p = o := ⟨_, rfl⟩
  rw [ho] at CI ⊢
  clear hl hin ho hc
  go_enter Tryz.func78, Tryz.ntmps78
  cases o with
  | true =>
    go_wp2_with (go_at_call 106; refine CI.out.mono ?_; rintro _ w2 ⟨i, rfl, hi, hb⟩; have HB := hide hb; have hi0 : 0 ≤ i := hi.1 rfl; have hid : decide (0 ≤ i) = true := decide_eq_true hi0; clear hb hi)
    go_ret
    exact ⟨ret_bool (by simp), HB.out⟩
  | false =>
    go_wp2_with (go_at_call 106; refine CI.out.mono ?_; rintro _ w2 ⟨i, rfl, hi, hb⟩; have HB := hide hb; have hi0 : i = -1 := hi.2 rfl; subst hi0; clear hb hi)
    go_ret
    exact ⟨rfl, HB.out⟩
set_option maxRecDepth 100000 in
set_option maxHeartbeats 3200000 in
theorem some_any (h : Ts w p D v) (hl : At1 w a (ints l)) (hlim : l.length ≤ 140737488351232) (hin : ∀ x ∈ l, D x) :
    Calls Tryz.prog 84 #[.slice a l.length c, v] w fun e w' => e = .returned (.bool (l.any p)) ∧ Below w.heap.size w w' := by
  have CI := hide (contains_ts (c := c) h hl hlim hin)
  obtain ⟨fn, caps, rfl, hf, hc⟩ := h
  obtain ⟨o, ho⟩ : ∃ o, l.any p = o := ⟨_, rfl⟩
  rw [ho] at CI ⊢
  clear hl hin ho hc
  go_enter Tryz.func84, Tryz.ntmps84
  go_wp2_with (go_at_call 78; refine CI.out.mono ?_; rintro _ w2 ⟨rfl, hb⟩; have HB := hide hb; clear hb)
  go_ret
  exact ⟨rfl, HB.out⟩
end
end Go.Proofs.YthifoamnmhlghaaGreat
