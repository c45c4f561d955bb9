/- Searches; prove; the reasons of disprove; disprove. (tools/gen16/fs4.py wrote this.) -/
import Derived.Test.YtcobmbclhhimjaaGreatFs2
namespace Go.Proofs.YtcobmbclhhimjaaGreat.Fa
open Go.RowKit

set_option maxRecDepth 100000 in
set_option maxHeartbeats 6400000 in
theorem find_any {w : World} {a : Option Addr} {l : List Int} {c : Nat} (h : At1 w a (ints l)) (hl : l.length ≤ 140737488351232) (hp : l.Pairwise (· < ·)) (t : Int) {k0 : Nat} (hk0 : l[k0]? = some t) :
    Calls Tryz.prog 116 #[.slice a l.length c, .int .i64 t] w fun e w' => e = .returned (.tuple #[.int .i64 k0, .bool true]) ∧ w' = w := by
  have HA := hide h
  have HP := hide hp
  have HK0 := hide hk0
  clear h hp hk0
  go_enter Tryz.func116, Tryz.ntmps116
  go_wp2_with fail
  go_loop [7, 8] (fun x y => ∃ (i j : Nat), x = .int .i64 i ∧ y = .int .i64 j ∧ i ≤ j ∧ j ≤ l.length ∧ Hid (Bs l t i j)) (fun x y => (intOf y).toNat - (intOf x).toNat)
  case atStart => exact ⟨0, l.length, rfl, rfl, by omega, by omega, hide ⟨by omega, by omega, fun m x hm => by omega, fun m x hm hx => by rw [List.getElem?_eq_none (by omega)] at hx; cases hx⟩⟩
  case round =>
    obtain ⟨i, j, rfl, rfl, hij, hjl, HB⟩ := hrel
    by_cases hlt : i < j
    · obtain ⟨x, hx⟩ := get_at (l := l) (i := (i + j) / 2) (by omega)
      obtain ⟨g, of, rfl, kc⟩ := HA.out.get hx
      have HX := hide hx
      have CL := hide (less_any x t w)
      clear hx
      by_cases hxt : x < t
      · have HN : Hid (Bs l t ((i + j) / 2 + 1) j) := hide ⟨by omega, HB.out.n, fun m y hm hy => by
          by_cases e : m = (i + j) / 2
          · subst e; rw [HX.out] at hy; cases hy; exact hxt
          · have := pw_lt HP.out hy HX.out (by omega); omega, HB.out.hi⟩
        clear HX HB
        go_wp2_with (go_at_call 127; refine CL.out.mono ?_; rintro _ w1 ⟨rfl, hw⟩; subst w1)
        go_round
        case rel => exact ⟨(i + j) / 2 + 1, j, by go_num, rfl, by omega, by omega, HN⟩
        case measure => simp [intOf]; omega
      · have HN : Hid (Bs l t i ((i + j) / 2)) := hide ⟨by omega, by omega, HB.out.lo, fun m y hm hy => by
          by_cases e : m = (i + j) / 2
          · subst e; rw [HX.out] at hy; cases hy; omega
          · have := pw_lt HP.out HX.out hy (by omega); omega⟩
        clear HX HB
        go_wp2_with (go_at_call 127; refine CL.out.mono ?_; rintro _ w1 ⟨rfl, hw⟩; subst w1)
        go_round
        case rel => exact ⟨i, (i + j) / 2, rfl, by go_num, by omega, by omega, HN⟩
        case measure => simp [intOf]; omega
    · have e : i = j := by omega
      subst e
      have HN : Hid (∀ (m : Nat) x, l[m]? = some x → x = t → m = i) := hide fun m x hm hx => by
        subst hx
        have h1 : ¬ m < i := fun h => by have := HB.out.lo m x h hm; omega
        by_cases h2 : m = i
        · exact h2
        · obtain ⟨y, hy⟩ := get_at (l := l) (i := i) (by have := (List.getElem?_eq_some_iff.1 hm).1; omega)
          have h3 := HB.out.hi i y (Nat.le_refl _) hy
          have h4 := pw_lt HP.out hy hm (by omega)
          omega
      clear HB HP
      have ek : k0 = i := HN.out k0 t HK0.out rfl
      subst ek
      have hil : k0 < l.length := (List.getElem?_eq_some_iff.1 HK0.out).1
      obtain ⟨g, of, rfl, kc⟩ := HA.out.get HK0.out
      clear HN hlt
      go_wp2_with fail
      go_ret2
      exact ⟨rfl, rfl⟩
/-- A function value, a method's too, that answers a test of such numbers, whatever is made meanwhile. -/
def Tm (w : World) (p : Int → Bool) (D : Int → Prop) (v : Value) : Prop :=
  ∃ (k : Nat) (pre caps : Array Value), v = .func (.func k) pre caps ∧ (∀ args w', (callFunc k args).run Tryz.prog w' = .ok (.enter k args) w') ∧
    ∀ (x : Int) (w' : World), D x → Below w.heap.size w w' → Calls Tryz.prog k (pre ++ #[.int .i64 x] ++ caps) w' fun e w2 => e = .returned (.bool (p x)) ∧ Below w'.heap.size w' w2
section
variable {w : World} {p : Int → Bool} {D : Int → Prop} {v : Value} {l : List Int} {a : Option Addr} {c : Nat}
set_option maxRecDepth 100000 in
set_option maxHeartbeats 3200000 in
theorem index_tm (h : Tm w p D v) (hl : At1 w a (ints l)) (hlim : l.length ≤ 140737488351232) (hin : ∀ x ∈ l, D x) :
    Calls Tryz.prog 130 #[.slice a l.length c, v] w fun e w' => ∃ i : Int, e = .returned (.int .i64 i) ∧ IxA (l.any p) i ∧ Below w.heap.size w w' := by
  obtain ⟨fn, pre, caps, rfl, hf, hc⟩ := h
  have HC := hide hc
  have HL := hide hl
  have HIN := hide hin
  obtain ⟨o, ho⟩ : ∃ o, l.any p = o := ⟨_, rfl⟩
  rw [ho]
  have HO : Hid ((l.drop 0).any p = o) := hide (by rw [List.drop_zero]; exact ho)
  clear hl hin ho hc
  go_enter Tryz.func130, Tryz.ntmps130
  go_wp2_with fail
  go_loopw [8] (fun x wr => ∃ k : Nat, k ≤ l.length ∧ x = .int .i64 k ∧ Hid ((l.drop k).any p = o) ∧ Hid (Below w.heap.size w wr)) (fun x _ => l.length - (intOf x).toNat)
  case atStart => exact ⟨0, by omega, rfl, HO, hide (Below.refl _ _)⟩
  case round =>
    clear HO
    obtain ⟨k, hk, rfl, HO, HB⟩ := hrel
    by_cases hlt : k < l.length
    · obtain ⟨x, hx⟩ := get_at hlt
      obtain ⟨g, gg, rfl, cx⟩ := (HL.out.below HB.out).get hx
      have C := hide (HC.out x wr (HIN.out x (List.mem_of_getElem? hx)) HB.out)
      cases hb : p x with
      | true =>
        have HE : Hid (o = true) := hide (by rw [← HO.out]; exact any_yes hx hb)
        rw [hb] at C
        clear hb hx HO
        go_wp2_with fail
        refine C.out.mono ?_
        rintro _ w2 ⟨rfl, hb2⟩
        have HB2 := hide (HB.out.trans (hb2.mono HB.out.size))
        clear hb2
        go_wp2_with fail
        go_ret
        exact ⟨k, rfl, ⟨fun _ => by omega, fun e => by rw [HE.out] at e; cases e⟩, HB2.out⟩
      | false =>
        have HE : Hid ((l.drop (k + 1)).any p = o) := hide (by rw [← HO.out]; exact (any_no hx hb).symm)
        rw [hb] at C
        clear hb hx HO
        go_wp2_with fail
        refine C.out.mono ?_
        rintro _ w2 ⟨rfl, hb2⟩
        have HB2 := hide (HB.out.trans (hb2.mono HB.out.size))
        clear hb2
        go_wp2_with fail
        go_roundw
        case rel => exact ⟨k + 1, by omega, by go_num, HE, HB2⟩
        case measure => simp [intOf]; omega
    · have HE : Hid (o = false) := hide (by rw [← HO.out, drop_end (by omega)]; rfl)
      go_wp2_with fail
      go_ret
      exact ⟨-1, rfl, ⟨fun e => absurd e (by rw [HE.out]; decide), fun _ => rfl⟩, HB.out⟩
set_option maxRecDepth 100000 in
set_option maxHeartbeats 3200000 in
theorem contains_tm (h : Tm w p D v) (hl : At1 w a (ints l)) (hlim : l.length ≤ 140737488351232) (hin : ∀ x ∈ l, D x) :
    Calls Tryz.prog 120 #[.slice a l.length c, v] w fun e w' => e = .returned (.bool (l.any p)) ∧ Below w.heap.size w w' := by
  have CI := hide (index_tm (c := c) h hl hlim hin)
  obtain ⟨fn, pre, caps, rfl, hf, hc⟩ := h
  obtain ⟨o, ho⟩ : ∃ o, l.any p = o := ⟨_, rfl⟩
  rw [ho] at CI ⊢
  clear hl hin ho hc
  go_enter Tryz.func120, Tryz.ntmps120
  cases o with
  | true =>
    go_wp2_with (go_at_call 130; refine CI.out.mono ?_; rintro _ w2 ⟨i, rfl, hi, hb⟩; have HB := hide hb; have hi0 : 0 ≤ i := hi.1 rfl; have hid : decide (0 ≤ i) = true := decide_eq_true hi0; clear hb hi)
    go_ret
    exact ⟨ret_bool (by simp), HB.out⟩
  | false =>
    go_wp2_with (go_at_call 130; refine CI.out.mono ?_; rintro _ w2 ⟨i, rfl, hi, hb⟩; have HB := hide hb; have hi0 : i = -1 := hi.2 rfl; subst hi0; clear hb hi)
    go_ret
    exact ⟨rfl, HB.out⟩
end
section
variable {T : Th} {F : List Int} {n : Nat}
theorem foe_pw (h : Pf T F n) {q : Nat} (hq : q < n) : (row T.foes q).Pairwise (· < ·) ∧ (row T.foes q).length ≤ 64 := by
  obtain ⟨l, hl⟩ := get_at (l := T.foes) (i := q) (by have := h.ok.fl; have := h.ln; omega)
  have := h.ok.foe q l hl
  rw [row_at (by rw [Int.toNat_natCast]; exact hl)]
  exact ⟨(risesF_in2 (by omega) this.2.1).2, this.1⟩
theorem rival_pw (h : Pf T F n) {q : Nat} (hq : q < n) : (rivalsL T q).Pairwise (· < ·) := (foe_pw h hq).1.filter _
theorem pw_nodup {l : List Int} (h : l.Pairwise (· < ·)) : l.Nodup := h.imp fun h => by omega
theorem rival_in (h : Pf T F n) {q : Nat} (hq : q < n) {p : Int} (hp : p ∈ rivalsL T q) : 0 ≤ p ∧ p < (n : Int) := h.foe q hq p (List.mem_filter.1 hp).1
theorem rival_len (h : Pf T F n) {q : Nat} (hq : q < n) : (rivalsL T q).length ≤ 64 := Nat.le_trans (List.length_filter_le _ _) (foe_pw h hq).2
theorem head_in (h : Pf T F n) {r : Nat} (hr : r < T.rules.length) : ∃ x, T.rules[r]? = some x ∧ headOf T r = x.head ∧ 0 ≤ x.head ∧ x.head < (n : Int) := by
  obtain ⟨x, hx⟩ := get_at hr
  have := h.head x (List.mem_of_getElem? hx)
  refine ⟨x, hx, ?_, this.1, this.2⟩
  unfold headOf
  rw [Int.toNat_natCast, hx]
  rfl
end
section
variable {N : Nat} {S : Nat → Prop} {A : Ad} {T : Th} {F : List Int} {n : Nat} {e : Es} {tv : Value} {w w' : World}
set_option maxRecDepth 100000 in
set_option maxHeartbeats 6400000 in
theorem placeOf_any {s k : Nat} {p : Int} (h : En N S A T F n e tv w) (hs : s < T.rules.length) (hp : (rivalsL T (headOf T s))[k]? = some p) :
    Calls Tryz.prog 95 #[ptr A.K, .int .i64 p, .int .i64 s] w fun o w' => o = .returned (.int .i64 k) ∧ ∃ m, w' = w.drewN m := by
  have k2 := h.bx.get (i := 2) rfl
  have k6 := h.bx.get (i := 6) rfl
  obtain ⟨x, hx, hhx, hx0, hx1⟩ := head_in h.pf hs
  obtain ⟨gr, go, bd, bp, er, -, -, x1, -, -, -, -⟩ := at_R h.ro.ta.rules hx
  rw [er] at k2
  obtain ⟨hm, hhm⟩ := Int.eq_ofNat_of_zero_le hx0
  have hmn : hm < n := by omega
  rw [hhx, hhm] at hp
  rw [hhm] at x1
  obtain ⟨la, lc, cl, hA⟩ := h.ro.lv.at hmn
  have CF := hide fun d : Nat => find_any (w := w.drewN d) (c := lc) (show At1 (w.drewN d) la _ from hA) (by have := rival_len h.pf hmn; omega) (rival_pw h.pf hmn) p hp
  have hrl : T.rules.length ≤ 4096 := h.pf.ok.rl
  clear h hx hhx hhm hA er hx0 hx1 hp
  obtain ⟨ln, hln⟩ : ∃ ln, (rivalsL T (hm : Int)).length = ln := ⟨_, rfl⟩
  rw [hln] at cl CF
  clear hln
  go_enter Tryz.func95, Tryz.ntmps95
  go_upto_region 1 with fail
  go_quiet ((go_at_call 116; exact Calls.quiet_of_same (CF.out _)))
  go_wp2_with fail
  go_ret
  exact ⟨rfl, _, rfl⟩
end
end Go.Proofs.YtcobmbclhhimjaaGreat.Fa
/- prove; the reasons of disprove; disprove. -/
namespace Go.Proofs.YtcobmbclhhimjaaGreat.Fa
open Go.RowKit

theorem enters_go {P : Program} {f : FuncId} {fn : Func} (hf : P.funcs[f]? = some fn) (hn : (fn.name == "runtime.NumGoroutine") = false) (hb : fn.body.isNone = false) : ∀ args w, (callFunc f args).run P w = .ok (.enter f args) w := by
  intro args w
  have h1 : ¬ fn.name = "runtime.NumGoroutine" := by simpa using hn
  have h2 : ¬ fn.body = none := by
    intro e
    rw [e] at hb
    cases hb
  simp [callFunc, hf, h1, h2]
def isRule (T : Th) (r : Int) : Prop := 0 ≤ r ∧ r < (T.rules.length : Int)
def isLit (n : Nat) (x : Int) : Prop := 0 ≤ x ∧ x < (n : Int)
theorem rules_in {T : Th} {p : RuleM → Bool} {z x : Int} (h : x ∈ rulesL T p z) : isRule T x := forL_in h
theorem rules_len {T : Th} {p : RuleM → Bool} {z : Int} : (rulesL T p z).length ≤ T.rules.length := forL_len
section
variable {N : Nat} {S : Nat → Prop} {A : Ad} {T : Th} {F : List Int} {n : Nat} {e : Es} {tv : Value} {w w' : World}
theorem used_tm (h : En N S A T F n e tv w) : Tm w (used e) (isRule T) (.func (.func 121) #[ptr A.K] #[]) :=
  ⟨_, _, _, rfl, enters_go Tryz.func121 (by kernel_rfl) (by kernel_rfl), fun x w' hx hw => by
    obtain ⟨r, rfl⟩ := Int.eq_ofNat_of_zero_le hx.1
    exact (used_any (h.go hw) (by have := hx.2; omega)).mono fun o w2 ⟨h1, h2⟩ => ⟨h1, by rw [h2]; exact Below.refl _ _⟩⟩
set_option maxRecDepth 100000 in
set_option maxHeartbeats 6400000 in
theorem prove_any {q : Nat} (h : Eg N S A T F n e w) (hq : q < n) :
    Calls Tryz.prog 100 #[ptr A.K, .int .i64 q] w fun o w' => o = .returned (.tuple #[]) ∧ Eg N S A T F n (proveE T e q) w' ∧ Fr (fun k => ¬ S k) w w' := by
  have HE := hide h
  obtain ⟨tv, h⟩ := h
  have k17 := h.bx.get (i := 17) rfl
  have k5 := h.bx.get (i := 5) rfl
  have co := h.ob.get (rowI_at hq)
  obtain ⟨la, lc, cl, hA⟩ := h.ro.lt.at hq
  have hrl : T.rules.length ≤ 4096 := h.pf.ok.rl
  have CC := hide (contains_tm (c := lc) (used_tm h) hA (by have := rules_len (T := T) (p := kT) (z := (q : Int)); omega) fun x hx => rules_in hx)
  obtain ⟨b, hb⟩ : ∃ b, (rulesL T kT (q : Int)).any (used e) = b := ⟨_, rfl⟩
  rw [hb] at CC
  obtain ⟨ln, hln⟩ : ∃ ln, (rulesL T kT (q : Int)).length = ln := ⟨_, rfl⟩
  rw [hln] at cl CC
  have HP : Hid (proveE T e q = if decide (e.ob q = 0) && b then tell e q 3 else e) := hide (by unfold proveE; rw [hb])
  generalize e.ob q = x at co HP
  clear h hA hb hln
  by_cases hx : x = 0
  · have hx2 : (x == 0) = true := by simpa using hx
    cases b with
    | true =>
      have HR : Hid (proveE T e q = tell e q 3) := hide (by rw [HP.out, decide_eq_true hx]; rfl)
      clear hx HP
      go_enter Tryz.func100, Tryz.ntmps100
      go_wp2_with (first | (go_at_call 120; refine CC.out.mono ?_; rintro _ w2 ⟨rfl, hb⟩; have HB := hide hb; have CT := hide (tell_any (HE.out.go hb) hq tag3); clear hb) | (go_at_call 99; refine CT.out.mono ?_; rintro _ w3 ⟨rfl, he, hf⟩; have HE3 := hide he; have HF3 := hide hf; clear he hf))
      go_end0
      exact ⟨rfl, by rw [HR.out]; exact HE3.out, (Fr.of_below HB.out).trans HF3.out⟩
    | false =>
      have HR : Hid (proveE T e q = e) := hide (by rw [HP.out, decide_eq_true hx]; rfl)
      clear hx HP
      go_enter Tryz.func100, Tryz.ntmps100
      go_wp2_with (go_at_call 120; refine CC.out.mono ?_; rintro _ w2 ⟨rfl, hb⟩; have HB := hide hb; clear hb)
      go_end0
      exact ⟨rfl, by rw [HR.out]; exact HE.out.go HB.out, Fr.of_below HB.out⟩
  · have hx2 : (x == 0) = false := by simpa using hx
    have HR : Hid (proveE T e q = e) := hide (by rw [HP.out, decide_eq_false hx]; rfl)
    clear hx HP
    go_enter Tryz.func100, Tryz.ntmps100
    go_wp2_with fail
    go_end0
    exact ⟨rfl, by rw [HR.out]; exact HE.out, Fr.refl _ _⟩
abbrev Bk (b K : Nat) (w : World) : Prop := Fx b 75 [ptr K] w
set_option maxRecDepth 100000 in
set_option maxHeartbeats 3200000 in
theorem forsC_any {r : Nat} {b : Nat} (h : En N S A T F n e tv w) (hb : Bk b A.K w) (hr : r < T.rules.length) :
    Calls Tryz.prog 131 #[.int .i64 r, ptr b] w fun o w' => o = .returned (.bool (!dropped e r)) ∧ w' = w := by
  have C := hide (dropped_any h hr)
  have c1 := hb.get (i := 0) rfl
  generalize dropped e r = o at *
  clear h hb
  go_enter Tryz.func131, Tryz.ntmps131
  go_wp2_with (go_at_call 97; refine C.out.mono ?_; rintro _ w2 ⟨rfl, rfl⟩)
  go_ret
  exact ⟨rfl, rfl⟩
set_option maxRecDepth 100000 in
set_option maxHeartbeats 3200000 in
theorem refuC_any {q : Nat} {b : Nat} (h : En N S A T F n e tv w) (hb : Bk b A.K w) (hq : q < n) :
    Calls Tryz.prog 132 #[.int .i64 q, ptr b] w fun o w' => o = .returned (.bool (has e q 1)) ∧ Below w.heap.size w w' := by
  have C := hide (has_any h hq tag1)
  have c1 := hb.get (i := 0) rfl
  generalize has e q 1 = o at *
  clear h hb
  go_enter Tryz.func132, Tryz.ntmps132
  go_wp2_with (go_at_call 36; refine C.out.mono ?_; rintro _ w2 ⟨rfl, hb2⟩; have HB := hide hb2; clear hb2)
  go_ret
  exact ⟨rfl, HB.out⟩
theorem fors_tm {b : Nat} (h : En N S A T F n e tv w) (hb : Bk b A.K w) : Tm w (fun r => !dropped e r) (isRule T) (.func (.func 131) #[] #[ptr b]) :=
  ⟨_, _, _, rfl, enters_go Tryz.func131 (by kernel_rfl) (by kernel_rfl), fun x w' hx hw => by
    obtain ⟨r, rfl⟩ := Int.eq_ofNat_of_zero_le hx.1
    exact (forsC_any (h.go hw) (hb.keep (hw.block _ hb.lt)) (by have := hx.2; omega)).mono fun o w2 ⟨h1, h2⟩ => ⟨h1, by rw [h2]; exact Below.refl _ _⟩⟩
theorem refu_tm {b : Nat} (h : En N S A T F n e tv w) (hb : Bk b A.K w) : Tm w (fun f => has e f 1) (isLit n) (.func (.func 132) #[] #[ptr b]) :=
  ⟨_, _, _, rfl, enters_go Tryz.func132 (by kernel_rfl) (by kernel_rfl), fun x w' hx hw => by
    obtain ⟨r, rfl⟩ := Int.eq_ofNat_of_zero_le hx.1
    exact refuC_any (h.go hw) (hb.keep (hw.block _ hb.lt)) (by have := hx.2; omega)⟩
set_option maxRecDepth 100000 in
set_option maxHeartbeats 3200000 in
theorem fors_any {q : Nat} (h : En N S A T F n e tv w) (hq : q < n) :
    Calls Tryz.prog 122 #[ptr A.K, .int .i64 q] w fun o w' => o = .returned (.bool (forsB T e q)) ∧ Below w.heap.size w w' := by
  have hB := below_new w (.cells #[ptr A.K] 75)
  have hF : Bk w.heap.size A.K (w.alloc (.cells #[ptr A.K] 75)) := heap_alloc_new w _
  have hE := h.go hB
  have HB := hide hB
  have hrl : T.rules.length ≤ 4096 := h.pf.ok.rl
  clear h hB
  go_enter Tryz.func122, Tryz.ntmps122
  go_upto_region 1 with fail
  generalize w.alloc (.cells #[ptr A.K] 75) = W at *
  have k5 := hE.bx.get (i := 5) rfl
  have c1 := hF.get (i := 0) rfl
  obtain ⟨la, lc, cl, hA⟩ := hE.ro.lt.at hq
  have CC := hide (contains_tm (c := lc) (fors_tm hE hF) hA (by have := rules_len (T := T) (p := kT) (z := (q : Int)); omega) fun x hx => rules_in hx)
  obtain ⟨b, hb⟩ : ∃ b, (rulesL T kT (q : Int)).any (fun r => !dropped e r) = b := ⟨_, rfl⟩
  have HR : Hid (forsB T e q = !b) := hide (by unfold forsB; rw [hb])
  rw [hb] at CC
  obtain ⟨ln, hln⟩ : ∃ ln, (rulesL T kT (q : Int)).length = ln := ⟨_, rfl⟩
  rw [hln] at cl CC
  clear hE hA hb hln hF
  go_wp2_with (go_at_call 120; refine CC.out.mono ?_; rintro _ w2 ⟨rfl, hb⟩; have HB2 := hide hb; clear hb)
  go_ret
  exact ⟨by rw [HR.out]; rfl, HB.out.trans (HB2.out.mono HB.out.size)⟩
theorem foes_at (h : En N S A T F n e tv w) {q : Nat} (hq : q < n) : ∃ l a c, row T.foes q = l ∧ T.foes[q]? = some l ∧ At1 w a (ints l) ∧ l.length ≤ 64 ∧ (∀ x ∈ l, isLit n x) ∧ q < T.foes.length ∧ ∃ g o, A.fa = some ⟨g, o, none⟩ ∧ w.cell? ⟨g, o + q, none⟩ = some (.slice a l.length c) := by
  obtain ⟨l, hl⟩ := get_at (l := T.foes) (i := q) (by have := h.pf.ok.fl; have := h.pf.ln; omega)
  have er : row T.foes (q : Int) = l := row_at (by rw [Int.toNat_natCast]; exact hl)
  obtain ⟨g, o, a2, c2, e1, -, hc, -, -, hI⟩ := at_L h.ro.ta.foes hl
  exact ⟨l, a2, c2, er, hl, hI.at1, by rw [← er]; exact (foe_pw h.pf hq).2, fun x hx => h.pf.foe q hq x (by rw [er]; exact hx), (List.getElem?_eq_some_iff.1 hl).1, g, o, e1, hc⟩
set_option maxRecDepth 100000 in
set_option maxHeartbeats 3200000 in
theorem refu_any {q : Nat} (h : En N S A T F n e tv w) (hq : q < n) :
    Calls Tryz.prog 123 #[ptr A.K, .int .i64 q] w fun o w' => o = .returned (.bool (refuB T e q)) ∧ Below w.heap.size w w' := by
  have hB := below_new w (.cells #[ptr A.K] 75)
  have hF : Bk w.heap.size A.K (w.alloc (.cells #[ptr A.K] 75)) := heap_alloc_new w _
  have hE := h.go hB
  have HB := hide hB
  clear h hB
  go_enter Tryz.func123, Tryz.ntmps123
  go_upto_region 1 with fail
  generalize w.alloc (.cells #[ptr A.K] 75) = W at *
  have k1 := hE.bx.get (i := 1) rfl
  have c1 := hF.get (i := 0) rfl
  obtain ⟨l, la, lc, er, -, hA, hll, hin, hfl, g, o, e1, cl⟩ := foes_at hE hq
  rw [e1] at k1
  have CC := hide (contains_tm (c := lc) (refu_tm hE hF) hA (by omega) hin)
  obtain ⟨b, hb⟩ : ∃ b, l.any (fun f => has e f 1) = b := ⟨_, rfl⟩
  have HR : Hid (refuB T e q = b) := hide (by unfold refuB; rw [er]; exact hb)
  rw [hb] at CC
  obtain ⟨ln, hln⟩ : ∃ ln, l.length = ln := ⟨_, rfl⟩
  rw [hln] at cl CC
  clear hE hA hb hln hF e1 er hin hll
  go_wp2_with (go_at_call 120; refine CC.out.mono ?_; rintro _ w2 ⟨rfl, hb⟩; have HB2 := hide hb; clear hb)
  go_ret
  exact ⟨by rw [HR.out]; rfl, HB.out.trans (HB2.out.mono HB.out.size)⟩
end
end Go.Proofs.YtcobmbclhhimjaaGreat.Fa
