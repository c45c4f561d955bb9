/- prove; the reasons of disprove; disprove. -/
import Derived.Test.YthifoamnmhlghaaGreatFs4
namespace Go.Proofs.YthifoamnmhlghaaGreat.Fa
open Go.RowKit

theorem enters_go {P : Program} {f : FuncId} {fn : Func} (hf : P.funcs[f]? = some fn) (hn : (fn.name == "runtime.NumGoroutine") = false) (hb : fn.body.isNone = false) : ∀ args w, (callFunc f args).run P w = .ok (.enter f args) w := by
  intro args w
  have h1 : ¬ fn.name = "runtime.NumGoroutine" := by simpa using hn
  have h2 : ¬ fn.body = none := by
    intro e
    rw [e] at hb
    cases hb
  simp [callFunc, hf, h1, h2]
def isRule (T : Th) (r : Int) : Prop := 0 ≤ r ∧ r < (T.rules.length : Int)
def isLit (n : Nat) (x : Int) : Prop := 0 ≤ x ∧ x < (n : Int)
theorem rules_in {T : Th} {p : RuleM → Bool} {z x : Int} (h : x ∈ rulesL T p z) : isRule T x := forL_in h
theorem rules_len {T : Th} {p : RuleM → Bool} {z : Int} : (rulesL T p z).length ≤ T.rules.length := forL_len
section
variable {N : Nat} {S : Nat → Prop} {A : Ad} {T : Th} {F : List Int} {n : Nat} {e : Es} {tv : Value} {w w' : World}
theorem used_tm (h : En N S A T F n e tv w) : Tm w (used e) (isRule T) (.func (.func 79) #[ptr A.K] #[]) :=
  ⟨_, _, _, rfl, enters_go Tryz.func79 (by kernel_rfl) (by kernel_rfl), fun x w' hx hw => by
    obtain ⟨r, rfl⟩ := Int.eq_ofNat_of_zero_le hx.1
    exact (used_any (h.go hw) (by have := hx.2; omega)).mono fun o w2 ⟨h1, h2⟩ => ⟨h1, by rw [h2]; exact Below.refl _ _⟩⟩
set_option maxRecDepth 100000 in
set_option maxHeartbeats 6400000 in
theorem prove_any {q : Nat} (h : Eg N S A T F n e w) (hq : q < n) :
    Calls Tryz.prog 58 #[ptr A.K, .int .i64 q] w fun o w' => o = .returned (.tuple #[]) ∧ Eg N S A T F n (proveE T e q) w' ∧ Fr (fun k => ¬ S k) w w' := by
  have HE := hide h
  obtain ⟨tv, h⟩ := h
  have k17 := h.bx.get (i := 17) rfl
  have k5 := h.bx.get (i := 5) rfl
  have co := h.ob.get (rowI_at hq)
  obtain ⟨la, lc, cl, hA⟩ := h.ro.lt.at hq
  have hrl : T.rules.length ≤ 4096 := h.pf.ok.rl
  have CC := hide (contains_tm (c := lc) (used_tm h) hA (by have := rules_len (T := T) (p := kT) (z := (q : Int)); omega) fun x hx => rules_in hx)
  obtain ⟨b, hb⟩ : ∃ b, (rulesL T kT (q : Int)).any (used e) = b := ⟨_, rfl⟩
  rw [hb] at CC
  obtain ⟨ln, hln⟩ : ∃ ln, (rulesL T kT (q : Int)).length = ln := ⟨_, rfl⟩
  rw [hln] at cl CC
  have HP : Hid (proveE T e q = if decide (e.ob q = 0) && b then tell e q 3 else e) := hide (by unfold proveE; rw [hb])
  generalize e.ob q = x at co HP
  clear h hA hb hln
  by_cases hx : x = 0
  · have hx2 : (x == 0) = true := by simpa using hx
    cases b with
    | true =>
      have HR : Hid (proveE T e q = tell e q 3) := hide (by rw [HP.out, decide_eq_true hx]; rfl)
      clear hx HP
      go_enter Tryz.func58, Tryz.ntmps58
      go_wp2_with (first | (go_at_call 78; refine CC.out.mono ?_; rintro _ w2 ⟨rfl, hb⟩; have HB := hide hb; have CT := hide (tell_any (HE.out.go hb) hq tag3); clear hb) | (go_at_call 56; refine CT.out.mono ?_; rintro _ w3 ⟨rfl, he, hf⟩; have HE3 := hide he; have HF3 := hide hf; clear he hf))
      go_end0
      exact ⟨rfl, by rw [HR.out]; exact HE3.out, (Fr.of_below HB.out).trans HF3.out⟩
    | false =>
      have HR : Hid (proveE T e q = e) := hide (by rw [HP.out, decide_eq_true hx]; rfl)
      clear hx HP
      go_enter Tryz.func58, Tryz.ntmps58
      go_wp2_with (go_at_call 78; refine CC.out.mono ?_; rintro _ w2 ⟨rfl, hb⟩; have HB := hide hb; clear hb)
      go_end0
      exact ⟨rfl, by rw [HR.out]; exact HE.out.go HB.out, Fr.of_below HB.out⟩
  · have hx2 : (x == 0) = false := by simpa using hx
    have HR : Hid (proveE T e q = e) := hide (by rw [HP.out, decide_eq_false hx]; rfl)
    clear hx HP
    go_enter Tryz.func58, Tryz.ntmps58
    go_wp2_with fail
    go_end0
    exact ⟨rfl, by rw [HR.out]; exact HE.out, Fr.refl _ _⟩
abbrev Bk (b K : Nat) (w : World) : Prop := Fx b 53 [ptr K] w
set_option maxRecDepth 100000 in
set_option maxHeartbeats 3200000 in
theorem forsC_any {r : Nat} {b : Nat} (h : En N S A T F n e tv w) (hb : Bk b A.K w) (hr : r < T.rules.length) :
    Calls Tryz.prog 107 #[.int .i64 r, ptr b] w fun o w' => o = .returned (.bool (!dropped e r)) ∧ w' = w := by
  have C := hide (dropped_any h hr)
  have c1 := hb.get (i := 0) rfl
  generalize dropped e r = o at *
  clear h hb
  go_enter Tryz.func107, Tryz.ntmps107
  go_wp2_with (go_at_call 54; refine C.out.mono ?_; rintro _ w2 ⟨rfl, rfl⟩)
  go_ret
  exact ⟨rfl, rfl⟩
set_option maxRecDepth 100000 in
set_option maxHeartbeats 3200000 in
theorem refuC_any {q : Nat} {b : Nat} (h : En N S A T F n e tv w) (hb : Bk b A.K w) (hq : q < n) :
    Calls Tryz.prog 108 #[.int .i64 q, ptr b] w fun o w' => o = .returned (.bool (has e q 1)) ∧ Below w.heap.size w w' := by
  have C := hide (has_any h hq tag1)
  have c1 := hb.get (i := 0) rfl
  generalize has e q 1 = o at *
  clear h hb
  go_enter Tryz.func108, Tryz.ntmps108
  go_wp2_with (go_at_call 57; refine C.out.mono ?_; rintro _ w2 ⟨rfl, hb2⟩; have HB := hide hb2; clear hb2)
  go_ret
  exact ⟨rfl, HB.out⟩
theorem fors_tm {b : Nat} (h : En N S A T F n e tv w) (hb : Bk b A.K w) : Tm w (fun r => !dropped e r) (isRule T) (.func (.func 107) #[] #[ptr b]) :=
  ⟨_, _, _, rfl, enters_go Tryz.func107 (by kernel_rfl) (by kernel_rfl), fun x w' hx hw => by
    obtain ⟨r, rfl⟩ := Int.eq_ofNat_of_zero_le hx.1
    exact (forsC_any (h.go hw) (hb.keep (hw.block _ hb.lt)) (by have := hx.2; omega)).mono fun o w2 ⟨h1, h2⟩ => ⟨h1, by rw [h2]; exact Below.refl _ _⟩⟩
theorem refu_tm {b : Nat} (h : En N S A T F n e tv w) (hb : Bk b A.K w) : Tm w (fun f => has e f 1) (isLit n) (.func (.func 108) #[] #[ptr b]) :=
  ⟨_, _, _, rfl, enters_go Tryz.func108 (by kernel_rfl) (by kernel_rfl), fun x w' hx hw => by
    obtain ⟨r, rfl⟩ := Int.eq_ofNat_of_zero_le hx.1
    exact refuC_any (h.go hw) (hb.keep (hw.block _ hb.lt)) (by have := hx.2; omega)⟩
set_option maxRecDepth 100000 in
set_option maxHeartbeats 3200000 in
theorem fors_any {q : Nat} (h : En N S A T F n e tv w) (hq : q < n) :
    Calls Tryz.prog 80 #[ptr A.K, .int .i64 q] w fun o w' => o = .returned (.bool (forsB T e q)) ∧ Below w.heap.size w w' := by
  have hB := below_new w (.cells #[ptr A.K] 53)
  have hF : Bk w.heap.size A.K (w.alloc (.cells #[ptr A.K] 53)) := heap_alloc_new w _
  have hE := h.go hB
  have HB := hide hB
  have hrl : T.rules.length ≤ 4096 := h.pf.ok.rl
  clear h hB
  go_enter Tryz.func80, Tryz.ntmps80
  go_upto_region 1 with fail
  generalize w.alloc (.cells #[ptr A.K] 53) = W at *
  have k5 := hE.bx.get (i := 5) rfl
  have c1 := hF.get (i := 0) rfl
  obtain ⟨la, lc, cl, hA⟩ := hE.ro.lt.at hq
  have CC := hide (contains_tm (c := lc) (fors_tm hE hF) hA (by have := rules_len (T := T) (p := kT) (z := (q : Int)); omega) fun x hx => rules_in hx)
  obtain ⟨b, hb⟩ : ∃ b, (rulesL T kT (q : Int)).any (fun r => !dropped e r) = b := ⟨_, rfl⟩
  have HR : Hid (forsB T e q = !b) := hide (by unfold forsB; rw [hb])
  rw [hb] at CC
  obtain ⟨ln, hln⟩ : ∃ ln, (rulesL T kT (q : Int)).length = ln := ⟨_, rfl⟩
  rw [hln] at cl CC
  clear hE hA hb hln hF
  go_wp2_with (go_at_call 78; refine CC.out.mono ?_; rintro _ w2 ⟨rfl, hb⟩; have HB2 := hide hb; clear hb)
  go_ret
  exact ⟨by rw [HR.out]; rfl, HB.out.trans (HB2.out.mono HB.out.size)⟩
theorem foes_at (h : En N S A T F n e tv w) {q : Nat} (hq : q < n) : ∃ l a c, row T.foes q = l ∧ T.foes[q]? = some l ∧ At1 w a (ints l) ∧ l.length ≤ 64 ∧ (∀ x ∈ l, isLit n x) ∧ q < T.foes.length ∧ ∃ g o, A.fa = some ⟨g, o, none⟩ ∧ w.cell? ⟨g, o + q, none⟩ = some (.slice a l.length c) := by
  obtain ⟨l, hl⟩ := get_at (l := T.foes) (i := q) (by have := h.pf.ok.fl; have := h.pf.ln; omega)
  have er : row T.foes (q : Int) = l := row_at (by rw [Int.toNat_natCast]; exact hl)
  obtain ⟨g, o, a2, c2, e1, -, hc, -, -, hI⟩ := at_L h.ro.ta.foes hl
  exact ⟨l, a2, c2, er, hl, hI.at1, by rw [← er]; exact (foe_pw h.pf hq).2, fun x hx => h.pf.foe q hq x (by rw [er]; exact hx), (List.getElem?_eq_some_iff.1 hl).1, g, o, e1, hc⟩
set_option maxRecDepth 100000 in
set_option maxHeartbeats 3200000 in
theorem refu_any {q : Nat} (h : En N S A T F n e tv w) (hq : q < n) :
    Calls Tryz.prog 81 #[ptr A.K, .int .i64 q] w fun o w' => o = .returned (.bool (refuB T e q)) ∧ Below w.heap.size w w' := by
  have hB := below_new w (.cells #[ptr A.K] 53)
  have hF : Bk w.heap.size A.K (w.alloc (.cells #[ptr A.K] 53)) := heap_alloc_new w _
  have hE := h.go hB
  have HB := hide hB
  clear h hB
  go_enter Tryz.func81, Tryz.ntmps81
  go_upto_region 1 with fail
  generalize w.alloc (.cells #[ptr A.K] 53) = W at *
  have k1 := hE.bx.get (i := 1) rfl
  have c1 := hF.get (i := 0) rfl
  obtain ⟨l, la, lc, er, -, hA, hll, hin, hfl, g, o, e1, cl⟩ := foes_at hE hq
  rw [e1] at k1
  have CC := hide (contains_tm (c := lc) (refu_tm hE hF) hA (by omega) hin)
  obtain ⟨b, hb⟩ : ∃ b, l.any (fun f => has e f 1) = b := ⟨_, rfl⟩
  have HR : Hid (refuB T e q = b) := hide (by unfold refuB; rw [er]; exact hb)
  rw [hb] at CC
  obtain ⟨ln, hln⟩ : ∃ ln, l.length = ln := ⟨_, rfl⟩
  rw [hln] at cl CC
  clear hE hA hb hln hF e1 er hin hll
  go_wp2_with (go_at_call 78; refine CC.out.mono ?_; rintro _ w2 ⟨rfl, hb⟩; have HB2 := hide hb; clear hb)
  go_ret
  exact ⟨by rw [HR.out]; rfl, HB.out.trans (HB2.out.mono HB.out.size)⟩
end
end Go.Proofs.YthifoamnmhlghaaGreat.Fa
