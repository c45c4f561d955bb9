/- Searches; prove; the reasons of disprove; disprove. (tools/gen16/fs4.py wrote this.) -/
import Derived.Test.YthifoamnmhlghaaGreatFs3
namespace Go.Proofs.YthifoamnmhlghaaGreat.Fa
open Go.RowKit

set_option maxRecDepth 100000 in
set_option maxHeartbeats 6400000 in
theorem find_any {w : World} {a : Option Addr} {l : List Int} {c : Nat} (h : At1 w a (ints l)) (hl : l.length ≤ 140737488351232) (hp : l.Pairwise (· < ·)) (t : Int) {k0 : Nat} (hk0 : l[k0]? = some t) :
    Calls Tryz.prog 73 #[.slice a l.length c, .int .i64 t] w fun e w' => e = .returned (.tuple #[.int .i64 k0, .bool true]) ∧ w' = w := by
  have HA := hide h
  have HP := hide hp
  have HK0 := hide hk0
  clear h hp hk0
  go_enter Tryz.func73, Tryz.ntmps73
  go_wp2_with fail
  go_loop [7, 8] (fun x y => ∃ (i j : Nat), x = .int .i64 i ∧ y = .int .i64 j ∧ i ≤ j ∧ j ≤ l.length ∧ Hid (Bs l t i j)) (fun x y => (intOf y).toNat - (intOf x).toNat)
  case atStart => exact ⟨0, l.length, rfl, rfl, by omega, by omega, hide ⟨by omega, by omega, fun m x hm => by omega, fun m x hm hx => by rw [List.getElem?_eq_none (by omega)] at hx; cases hx⟩⟩
  case round =>
    obtain ⟨i, j, rfl, rfl, hij, hjl, HB⟩ := hrel
    by_cases hlt : i < j
    · obtain ⟨x, hx⟩ := get_at (l := l) (i := (i + j) / 2) (by omega)
      obtain ⟨g, of, rfl, kc⟩ := HA.out.get hx
      have HX := hide hx
      have CL := hide (less_any x t w)
      clear hx
      by_cases hxt : x < t
      · have HN : Hid (Bs l t ((i + j) / 2 + 1) j) := hide ⟨by omega, HB.out.n, fun m y hm hy => by
          by_cases e : m = (i + j) / 2
          · subst e; rw [HX.out] at hy; cases hy; exact hxt
          · have := pw_lt HP.out hy HX.out (by omega); omega, HB.out.hi⟩
        clear HX HB
        go_wp2_with (go_at_call 103; refine CL.out.mono ?_; rintro _ w1 ⟨rfl, hw⟩; subst w1)
        go_round
        case rel => exact ⟨(i + j) / 2 + 1, j, by go_num, rfl, by omega, by omega, HN⟩
        case measure => simp [intOf]; omega
      · have HN : Hid (Bs l t i ((i + j) / 2)) := hide ⟨by omega, by omega, HB.out.lo, fun m y hm hy => by
          by_cases e : m = (i + j) / 2
          · subst e; rw [HX.out] at hy; cases hy; omega
          · have := pw_lt HP.out HX.out hy (by omega); omega⟩
        clear HX HB
        go_wp2_with (go_at_call 103; refine CL.out.mono ?_; rintro _ w1 ⟨rfl, hw⟩; subst w1)
        go_round
        case rel => exact ⟨i, (i + j) / 2, rfl, by go_num, by omega, by omega, HN⟩
        case measure => simp [intOf]; omega
    · have e : i = j := by omega
      subst e
      have HN : Hid (∀ (m : Nat) x, l[m]? = some x → x = t → m = i) := hide fun m x hm hx => by
        subst hx
        have h1 : ¬ m < i := fun h => by have := HB.out.lo m x h hm; omega
        by_cases h2 : m = i
        · exact h2
        · obtain ⟨y, hy⟩ := get_at (l := l) (i := i) (by have := (List.getElem?_eq_some_iff.1 hm).1; omega)
          have h3 := HB.out.hi i y (Nat.le_refl _) hy
          have h4 := pw_lt HP.out hy hm (by omega)
          omega
      clear HB HP
      have ek : k0 = i := HN.out k0 t HK0.out rfl
      subst ek
      have hil : k0 < l.length := (List.getElem?_eq_some_iff.1 HK0.out).1
      obtain ⟨g, of, rfl, kc⟩ := HA.out.get HK0.out
      clear HN hlt
      go_wp2_with fail
      go_ret2
      exact ⟨rfl, rfl⟩
/-- A function value, a method's too, that answers a test of such numbers, whatever is made meanwhile. -/
def Tm (w : World) (p : Int → Bool) (D : Int → Prop) (v : Value) : Prop :=
  ∃ (k : Nat) (pre caps : Array Value), v = .func (.func k) pre caps ∧ (∀ args w', (callFunc k args).run Tryz.prog w' = .ok (.enter k args) w') ∧
    ∀ (x : Int) (w' : World), D x → Below w.heap.size w w' → Calls Tryz.prog k (pre ++ #[.int .i64 x] ++ caps) w' fun e w2 => e = .returned (.bool (p x)) ∧ Below w'.heap.size w' w2
section
variable {w : World} {p : Int → Bool} {D : Int → Prop} {v : Value} {l : List Int} {a : Option Addr} {c : Nat}
set_option maxRecDepth 100000 in
set_option maxHeartbeats 3200000 in
theorem index_tm (h : Tm w p D v) (hl : At1 w a (ints l)) (hlim : l.length ≤ 140737488351232) (hin : ∀ x ∈ l, D x) :
    Calls Tryz.prog 106 #[.slice a l.length c, v] w fun e w' => ∃ i : Int, e = .returned (.int .i64 i) ∧ IxA (l.any p) i ∧ Below w.heap.size w w' := by
  obtain ⟨fn, pre, caps, rfl, hf, hc⟩ := h
  have HC := hide hc
  have HL := hide hl
  have HIN := hide hin
  obtain ⟨o, ho⟩ : ∃ o, l.any p = o := ⟨_, rfl⟩
  rw [ho]
  have HO : Hid ((l.drop 0).any p = o) := hide (by rw [List.drop_zero]; exact ho)
  clear hl hin ho hc
  go_enter Tryz.func106, Tryz.ntmps106
  go_wp2_with fail
  go_loopw [8] (fun x wr => ∃ k : Nat, k ≤ l.length ∧ x = .int .i64 k ∧ Hid ((l.drop k).any p = o) ∧ Hid (Below w.heap.size w wr)) (fun x _ => l.length - (intOf x).toNat)
  case atStart => exact ⟨0, by omega, rfl, HO, hide (Below.refl _ _)⟩
  case round =>
    clear HO
    obtain ⟨k, hk, rfl, HO, HB⟩ := hrel
    by_cases hlt : k < l.length
    · obtain ⟨x, hx⟩ := get_at hlt
      obtain ⟨g, gg, rfl, cx⟩ := (HL.out.below HB.out).get hx
      have C := hide (HC.out x wr (HIN.out x (List.mem_of_getElem? hx)) HB.out)
      cases hb : p x with
      | true =>
        have HE : Hid (o = true) := hide (by rw [← HO.out]; exact any_yes hx hb)
        rw [hb] at C
        clear hb hx HO
        go_wp2_with fail
        refine C.out.mono ?_
        rintro _ w2 ⟨rfl, hb2⟩
        have HB2 := hide (HB.out.trans (hb2.mono HB.out.size))
        clear hb2
        go_wp2_with fail
        go_ret
        exact ⟨k, rfl, ⟨fun _ => by omega, fun e => by rw [HE.out] at e; cases e⟩, HB2.out⟩
      | false =>
        have HE : Hid ((l.drop (k + 1)).any p = o) := hide (by rw [← HO.out]; exact (any_no hx hb).symm)
        rw [hb] at C
        clear hb hx HO
        go_wp2_with fail
        refine C.out.mono ?_
        rintro _ w2 ⟨rfl, hb2⟩
        have HB2 := hide (HB.out.trans (hb2.mono HB.out.size))
        clear hb2
        go_wp2_with fail
        go_roundw
        case rel => exact ⟨k + 1, by omega, by go_num, HE, HB2⟩
        case measure => simp [intOf]; omega
    · have HE : Hid (o = false) := hide (by rw [← HO.out, drop_end (by omega)]; rfl)
      go_wp2_with fail
      go_ret
      exact ⟨-1, rfl, ⟨fun e => absurd e (by rw [HE.out]; decide), fun _ => rfl⟩, HB.out⟩
set_option maxRecDepth 100000 in
set_option maxHeartbeats 3200000 in
theorem contains_tm (h : Tm w p D v) (hl : At1 w a (ints l)) (hlim : l.length ≤ 140737488351232) (hin : ∀ x ∈ l, D x) :
    Calls Tryz.prog 78 #[.slice a l.length c, v] w fun e w' => e = .returned (.bool (l.any p)) ∧ Below w.heap.size w w' := by
  have CI := hide (index_tm (c := c) h hl hlim hin)
  obtain ⟨fn, pre, caps, rfl, hf, hc⟩ := h
  obtain ⟨o, ho⟩ : ∃ o, l.any p = o := ⟨_, rfl⟩
  rw [ho] at CI ⊢
  clear hl hin ho hc
  go_enter Tryz.func78, Tryz.ntmps78
  cases o with
  | true =>
    go_wp2_with (go_at_call 106; refine CI.out.mono ?_; rintro _ w2 ⟨i, rfl, hi, hb⟩; have HB := hide hb; have hi0 : 0 ≤ i := hi.1 rfl; have hid : decide (0 ≤ i) = true := decide_eq_true hi0; clear hb hi)
    go_ret
    exact ⟨ret_bool (by simp), HB.out⟩
  | false =>
    go_wp2_with (go_at_call 106; refine CI.out.mono ?_; rintro _ w2 ⟨i, rfl, hi, hb⟩; have HB := hide hb; have hi0 : i = -1 := hi.2 rfl; subst hi0; clear hb hi)
    go_ret
    exact ⟨rfl, HB.out⟩
end
section
variable {T : Th} {F : List Int} {n : Nat}
theorem foe_pw (h : Pf T F n) {q : Nat} (hq : q < n) : (row T.foes q).Pairwise (· < ·) ∧ (row T.foes q).length ≤ 64 := by
  obtain ⟨l, hl⟩ := get_at (l := T.foes) (i := q) (by have := h.ok.fl; have := h.ln; omega)
  have := h.ok.foe q l hl
  rw [row_at (by rw [Int.toNat_natCast]; exact hl)]
  exact ⟨(risesF_in2 (by omega) this.2.1).2, this.1⟩
theorem rival_pw (h : Pf T F n) {q : Nat} (hq : q < n) : (rivalsL T q).Pairwise (· < ·) := (foe_pw h hq).1.filter _
theorem pw_nodup {l : List Int} (h : l.Pairwise (· < ·)) : l.Nodup := h.imp fun h => by omega
theorem rival_in (h : Pf T F n) {q : Nat} (hq : q < n) {p : Int} (hp : p ∈ rivalsL T q) : 0 ≤ p ∧ p < (n : Int) := h.foe q hq p (List.mem_filter.1 hp).1
theorem rival_len (h : Pf T F n) {q : Nat} (hq : q < n) : (rivalsL T q).length ≤ 64 := Nat.le_trans (List.length_filter_le _ _) (foe_pw h hq).2
theorem head_in (h : Pf T F n) {r : Nat} (hr : r < T.rules.length) : ∃ x, T.rules[r]? = some x ∧ headOf T r = x.head ∧ 0 ≤ x.head ∧ x.head < (n : Int) := by
  obtain ⟨x, hx⟩ := get_at hr
  have := h.head x (List.mem_of_getElem? hx)
  refine ⟨x, hx, ?_, this.1, this.2⟩
  unfold headOf
  rw [Int.toNat_natCast, hx]
  rfl
end
section
variable {N : Nat} {S : Nat → Prop} {A : Ad} {T : Th} {F : List Int} {n : Nat} {e : Es} {tv : Value} {w w' : World}
set_option maxRecDepth 100000 in
set_option maxHeartbeats 6400000 in
theorem placeOf_any {s k : Nat} {p : Int} (h : En N S A T F n e tv w) (hs : s < T.rules.length) (hp : (rivalsL T (headOf T s))[k]? = some p) :
    Calls Tryz.prog 52 #[ptr A.K, .int .i64 p, .int .i64 s] w fun o w' => o = .returned (.int .i64 k) ∧ ∃ m, w' = w.drewN m := by
  have k2 := h.bx.get (i := 2) rfl
  have k6 := h.bx.get (i := 6) rfl
  obtain ⟨x, hx, hhx, hx0, hx1⟩ := head_in h.pf hs
  obtain ⟨gr, go, bd, bp, er, -, -, x1, -, -, -, -⟩ := at_R h.ro.ta.rules hx
  rw [er] at k2
  obtain ⟨hm, hhm⟩ := Int.eq_ofNat_of_zero_le hx0
  have hmn : hm < n := by omega
  rw [hhx, hhm] at hp
  rw [hhm] at x1
  obtain ⟨la, lc, cl, hA⟩ := h.ro.lv.at hmn
  have CF := hide fun d : Nat => find_any (w := w.drewN d) (c := lc) (show At1 (w.drewN d) la _ from hA) (by have := rival_len h.pf hmn; omega) (rival_pw h.pf hmn) p hp
  have hrl : T.rules.length ≤ 4096 := h.pf.ok.rl
  clear h hx hhx hhm hA er hx0 hx1 hp
  obtain ⟨ln, hln⟩ : ∃ ln, (rivalsL T (hm : Int)).length = ln := ⟨_, rfl⟩
  rw [hln] at cl CF
  clear hln
  go_enter Tryz.func52, Tryz.ntmps52
  go_upto_region 1 with fail
  go_quiet ((go_at_call 73; exact Calls.quiet_of_same (CF.out _)))
  go_wp2_with fail
  go_ret
  exact ⟨rfl, _, rfl⟩
end
end Go.Proofs.YthifoamnmhlghaaGreat.Fa
