/- What is known, in memory; has, whole, partly, beats. -/
import Derived.Test.YtddlhlifkhaokaaGreatNvM
import Derived.BigQuiet
namespace Go.Proofs.YtddlhlifkhaokaaGreat
open Go.RowKit

/-- A theory and facts that may be asked. -/
structure Pf (T : Th) (F : List Int) (n : Nat) : Prop where
  ok : OkT T
  ln : T.lits = (n : Int)
  n4 : n ≤ 4096
  foe : ∀ q : Nat, q < n → ∀ f ∈ row T.foes q, 0 ≤ f ∧ f < (n : Int)
  head : ∀ r ∈ T.rules, 0 ≤ r.head ∧ r.head < (n : Int)
  body : ∀ r ∈ T.rules, ∀ x ∈ r.body, 0 ≤ x ∧ x < (n : Int)
  beat : ∀ l ∈ T.beats, l.Pairwise (· < ·)
  fact : ∀ x ∈ F, 0 ≤ x ∧ x < (n : Int)
theorem risesF_in2 {b : Int} : ∀ {l : List Int} {p : Int}, -1 ≤ p → risesF b p l = true → (∀ x ∈ l, p < x ∧ x < b) ∧ l.Pairwise (· < ·)
  | [], _, _, _ => ⟨fun x hx => (by cases hx), List.Pairwise.nil⟩
  | y :: l, p, hp, h => by
    unfold risesF at h
    split at h
    · cases h
    · rename_i hn
      obtain ⟨h1, h2⟩ := risesF_in2 (p := y) (by omega) h
      refine ⟨fun x hx => ?_, List.pairwise_cons.2 ⟨fun x hx => (h1 x hx).1, h2⟩⟩
      rcases List.mem_cons.1 hx with rfl | hx
      · omega
      · have := h1 x hx; omega
theorem pf_of {T : Th} {F : List Int} (h : faultM T F = 0) : Pf T F T.lits.toNat := by
  unfold faultM at h
  by_cases hc : (checkM T).1 ≠ 0
  · rw [if_pos hc] at h; exact absurd h hc
  · rw [if_neg hc] at h
    have hok := check_ok (Classical.not_not.1 hc)
    have h0 := hok.l0
    have h1 := hok.l1
    have hfl := hok.fl
    have hr : risesM F T.lits = true := by
      cases e : risesM F T.lits with
      | true => rfl
      | false => rw [e] at h; cases h
    obtain ⟨f1, f2⟩ := risesF_in2 (by omega) hr
    refine ⟨hok, by omega, by omega, fun q hq f hf => ?_, fun r hr => ?_, fun r hr x hx => ?_, fun l hl => ?_, fun x hx => ?_⟩
    · obtain ⟨l, hl⟩ := get_at (l := T.foes) (i := q) (by omega)
      rw [row_at (by rw [Int.toNat_natCast]; exact hl)] at hf
      have := (risesF_in2 (by omega) (hok.foe q l hl).2.1).1 f hf
      omega
    · have := hok.rule r hr
      exact ⟨this.2.2.1, by have := this.2.2.2.1; omega⟩
    · have := (risesF_in2 (by omega) (hok.rule r hr).2.2.2.2.2).1 x hx
      omega
    · obtain ⟨i, hi⟩ := List.mem_iff_getElem?.1 hl
      exact (risesF_in2 (by omega) (hok.beat i l hi).1).2
    · have := f1 x hx
      omega
def u8s (l : List Int) : List Value := l.map (Value.int .u8)
theorem u8s_at {l : List Int} {i : Nat} (hi : i < l.length) : (u8s l)[i]? = some (.int .u8 (l.getD i 0)) := by
  unfold u8s
  rw [List.getElem?_map, List.getElem?_eq_getElem hi]
  simp [List.getD, hi]
theorem u8s_len {l : List Int} : (u8s l).length = l.length := by unfold u8s; simp
def facB (F : List Int) (n : Nat) : List Bool := (List.range n).map fun q : Nat => decide ((q : Int) ∈ F)
theorem facB_at {F : List Int} {n q : Nat} (hq : q < n) : (bools (facB F n))[q]? = some (.bool (decide ((q : Int) ∈ F))) := by unfold bools facB; rw [List.getElem?_map, List.getElem?_map, List.getElem?_range hq]; rfl
/-- Where its parts lie. -/
structure Ka where
  fa : Option Addr
  fc : Nat
  ra : Option Addr
  rc : Nat
  ba : Option Addr
  bc : Nat
  fb : Nat
  s0 : Nat
  s1 : Nat
  s2 : Nat
abbrev knL (A : Ka) (T : Th) (n : Nat) (mv : Value) : List Value := [.int .i64 T.lits, .slice A.fa T.foes.length A.fc, .slice A.ra T.rules.length A.rc, .slice A.ba T.beats.length A.bc, .slice (some ⟨A.fb, 0, none⟩) n n, .slice (some ⟨A.s0, 0, none⟩) n n, .slice (some ⟨A.s1, 0, none⟩) n n, .slice (some ⟨A.s2, 0, none⟩) n n, mv]
/-- What is known. -/
structure Kn (K : Nat) (A : Ka) (T : Th) (F : List Int) (n : Nat) (m : List Int) (ma : Option Addr) (mc : Nat) (w : World) : Prop where
  pf : Pf T F n
  bx : Fx K 67 (knL A T n (.slice ma n mc)) w
  ta : TA w.heap.size w T A.fa A.fc A.ra A.rc A.ba A.bc
  ff : Fx A.fb 4 (bools (facB F n)) w
  l0 : Lists w.heap.size w (grp T kS n) (.slice (some ⟨A.s0, 0, none⟩) n n)
  l1 : Lists w.heap.size w (grp T kT n) (.slice (some ⟨A.s1, 0, none⟩) n n)
  l2 : Lists w.heap.size w (grp T kA n) (.slice (some ⟨A.s2, 0, none⟩) n n)
  ml : m.length = n
  mm : At1 w ma (u8s m)
section
variable {K n : Nat} {A : Ka} {T : Th} {F m : List Int} {ma : Option Addr} {mc : Nat} {w w' : World}
theorem Kn.go (h : Kn K A T F n m ma mc w) (hb : Below w.heap.size w w') : Kn K A T F n m ma mc w' :=
  ⟨h.pf, h.bx.keep (hb.block _ h.bx.lt), TR.go hb h.ta, h.ff.keep (hb.block _ h.ff.lt), Lists.go hb h.l0, Lists.go hb h.l1, Lists.go hb h.l2, h.ml, h.mm.below hb⟩
theorem Kn.drewN (h : Kn K A T F n m ma mc w) (q : Nat) : Kn K A T F n m ma mc (w.drewN q) := h.go (below_drewN w q)
def isTag (t : Int) : Prop := t = 1 ∨ t = 2 ∨ t = 3 ∨ t = 4
set_option maxRecDepth 100000 in
set_option maxHeartbeats 3200000 in
theorem bit_any {t : Int} (ht : isTag t) : Calls Tryz.prog 35 #[.int .i64 t] w fun e w' => e = .returned (.int .u8 (bitM t)) ∧ w' = w := by
  rcases ht with rfl | rfl | rfl | rfl
  all_goals
    go_enter Tryz.func35, Tryz.ntmps35
    go_wp2_with fail
    go_ret
    exact ⟨rfl, rfl⟩
set_option maxRecDepth 100000 in
set_option maxHeartbeats 3200000 in
theorem has_kn {q : Nat} {t : Int} (h : Kn K A T F n m ma mc w) (hq : q < n) (ht : isTag t) :
    Calls Tryz.prog 34 #[ptr K, .int .i64 q, .int .i64 t] w fun e w' => e = .returned (.bool (hs m q t)) ∧ Below w.heap.size w w' := by
  have k8 := h.bx.get (i := 8) rfl
  obtain ⟨g, o, rfl, cm⟩ := h.mm q _ (u8s_at (by rw [h.ml]; exact hq))
  have CB := hide fun d : Nat => bit_any (w := w.drewN d) ht
  have HS : Hid ((bits .and .u8 (m.getD q 0) (bitM t) != 0) = hs m q t) := hide (by unfold hs hb; rw [Int.toNat_natCast])
  generalize hs m q t = o at *
  generalize m.getD q 0 = x at *
  generalize bitM t = y at *
  clear h ht
  go_enter Tryz.func34, Tryz.ntmps34
  go_upto_region 1 with fail
  go_quiet ((go_at_call 35; exact Calls.quiet_of_same (CB.out _)))
  go_wp2_with fail
  go_ret
  exact ⟨by rw [← HS.out]; rfl, below_drewN w _⟩
end
end Go.Proofs.YtddlhlifkhaokaaGreat
/- whole, partly, beats; tests over a box that holds what is known. (tools/gen15/kw.py wrote this.) -/
namespace Go.Proofs.YtddlhlifkhaokaaGreat
open Go.RowKit

theorem enters_go {P : Program} {f : FuncId} {fn : Func} (hf : P.funcs[f]? = some fn) (hn : (fn.name == "runtime.NumGoroutine") = false) (hb : fn.body.isNone = false) : ∀ args w, (callFunc f args).run P w = .ok (.enter f args) w := by
  intro args w
  have h1 : ¬ fn.name = "runtime.NumGoroutine" := by simpa using hn
  have h2 : ¬ fn.body = none := by
    intro e
    rw [e] at hb
    cases hb
  simp [callFunc, hf, h1, h2]
abbrev Bk (b K : Nat) (w : World) : Prop := Fx b 52 [ptr K] w
def isRule (T : Th) (r : Int) : Prop := 0 ≤ r ∧ r < (T.rules.length : Int)
def isLit (n : Nat) (x : Int) : Prop := 0 ≤ x ∧ x < (n : Int)
section
variable {K n b b2 : Nat} {A : Ka} {T : Th} {F m : List Int} {ma : Option Addr} {mc : Nat} {w w' : World}
set_option maxRecDepth 100000 in
set_option maxHeartbeats 3200000 in
theorem wholeC_any {x t : Int} (h : Kn K A T F n m ma mc w) (hb : Bk b K w) (h2 : Fx b2 72 [.int .i64 t] w) (hx : isLit n x) (ht : isTag t) :
    Calls Tryz.prog 98 #[.int .i64 x, ptr b, ptr b2] w fun e w' => e = .returned (.bool (hs m x t)) ∧ Below w.heap.size w w' := by
  obtain ⟨hx0, hx1⟩ := hx
  obtain ⟨q, rfl⟩ := Int.eq_ofNat_of_zero_le hx0
  have C := hide (has_kn h (by omega : q < n) ht)
  have c1 := hb.get (i := 0) rfl
  have c2 := h2.get (i := 0) rfl
  generalize hs m q t = o at *
  clear h hb h2 ht
  go_enter Tryz.func98, Tryz.ntmps98
  go_wp2_with (go_at_call 34; refine C.out.mono ?_; rintro _ w2 ⟨rfl, hb2⟩; have HB := hide hb2; clear hb2)
  go_ret
  exact ⟨rfl, HB.out⟩
theorem wholeC_ts {t : Int} (h : Kn K A T F n m ma mc w) (hb : Bk b K w) (h2 : Fx b2 72 [.int .i64 t] w) (ht : isTag t) : Ts w (fun x => hs m x t) (isLit n) (.func (.func 98) #[] #[ptr b, ptr b2]) :=
  ⟨_, _, rfl, enters_go Tryz.func98 (by kernel_rfl) (by kernel_rfl), fun x w' hx hw => wholeC_any (h.go hw) (hb.keep (hw.block _ hb.lt)) (h2.keep (hw.block _ h2.lt)) hx ht⟩
set_option maxRecDepth 100000 in
set_option maxHeartbeats 3200000 in
theorem whole_any {r : Nat} {t : Int} (h : Kn K A T F n m ma mc w) (hr : r < T.rules.length) (ht : isTag t) :
    Calls Tryz.prog 65 #[ptr K, .int .i64 r, .int .i64 t] w fun e w' => e = .returned (.bool (wholeB T m r t)) ∧ Below w.heap.size w w' := by
  obtain ⟨R, hR⟩ := get_at hr
  have hB1 := below_new w (.cells #[ptr K] 52)
  have hB2 := below_new (w.alloc (.cells #[ptr K] 52)) (.cells #[.int .i64 t] 72)
  have hB : Below w.heap.size w ((w.alloc (.cells #[ptr K] 52)).alloc (.cells #[.int .i64 t] 72)) := hB1.trans (hB2.mono hB1.size)
  have hF1 : Bk w.heap.size K ((w.alloc (.cells #[ptr K] 52)).alloc (.cells #[.int .i64 t] 72)) := (hB2.block _ (by simp)).trans (heap_alloc_new w _)
  have hF2 : Fx (w.heap.size + 1) 72 [.int .i64 t] ((w.alloc (.cells #[ptr K] 52)).alloc (.cells #[.int .i64 t] 72)) := by
    have := heap_alloc_new (w.alloc (.cells #[ptr K] 52)) (.cells #[.int .i64 t] 72)
    simpa [Fx] using this
  have hK := h.go hB
  obtain ⟨o, ho⟩ : ∃ o, wholeB T m r t = o := ⟨_, rfl⟩
  rw [ho]
  have HO := hide ho
  clear h hB1 hB2 ho
  go_enter Tryz.func65, Tryz.ntmps65
  go_upto_region 1 with fail
  generalize (w.alloc (.cells #[ptr K] 52)).alloc (.cells #[.int .i64 t] 72) = W at *
  obtain ⟨gr, go, bd, bp, era, -, -, -, x2, -, hbl, hbody⟩ := at_R hK.ta.rules hR
  have k2 := hK.bx.get (i := 2) rfl
  rw [era] at k2
  have c1 := hF1.get (i := 0) rfl
  have C := hide (every_any (c := bp) (wholeC_ts hK hF1 hF2 ht) hbody.at1 hbl (fun x hx => hK.pf.body R (List.mem_of_getElem? hR) x hx))
  have HW : Hid (wholeB T m r t = R.body.all fun x => hs m x t) := hide (by unfold wholeB bodyM; rw [Int.toNat_natCast, hR]; rfl)
  have HB := hide hB
  rw [← HW.out, HO.out] at C
  clear hF1 hF2 hK hbody hB HW ht era hR
  go_wp2_with (go_at_call 66; refine C.out.mono ?_; rintro _ w2 ⟨rfl, hb2⟩; have HB2 := hide hb2; clear hb2)
  go_ret
  exact ⟨rfl, HB.out.trans (HB2.out.mono HB.out.size)⟩
set_option maxRecDepth 100000 in
set_option maxHeartbeats 3200000 in
theorem partlyC_any {x t : Int} (h : Kn K A T F n m ma mc w) (hb : Bk b K w) (h2 : Fx b2 72 [.int .i64 t] w) (hx : isLit n x) (ht : isTag t) :
    Calls Tryz.prog 99 #[.int .i64 x, ptr b, ptr b2] w fun e w' => e = .returned (.bool (hs m x t)) ∧ Below w.heap.size w w' := by
  obtain ⟨hx0, hx1⟩ := hx
  obtain ⟨q, rfl⟩ := Int.eq_ofNat_of_zero_le hx0
  have C := hide (has_kn h (by omega : q < n) ht)
  have c1 := hb.get (i := 0) rfl
  have c2 := h2.get (i := 0) rfl
  generalize hs m q t = o at *
  clear h hb h2 ht
  go_enter Tryz.func99, Tryz.ntmps99
  go_wp2_with (go_at_call 34; refine C.out.mono ?_; rintro _ w2 ⟨rfl, hb2⟩; have HB := hide hb2; clear hb2)
  go_ret
  exact ⟨rfl, HB.out⟩
theorem partlyC_ts {t : Int} (h : Kn K A T F n m ma mc w) (hb : Bk b K w) (h2 : Fx b2 72 [.int .i64 t] w) (ht : isTag t) : Ts w (fun x => hs m x t) (isLit n) (.func (.func 99) #[] #[ptr b, ptr b2]) :=
  ⟨_, _, rfl, enters_go Tryz.func99 (by kernel_rfl) (by kernel_rfl), fun x w' hx hw => partlyC_any (h.go hw) (hb.keep (hw.block _ hb.lt)) (h2.keep (hw.block _ h2.lt)) hx ht⟩
set_option maxRecDepth 100000 in
set_option maxHeartbeats 3200000 in
theorem partly_any {r : Nat} {t : Int} (h : Kn K A T F n m ma mc w) (hr : r < T.rules.length) (ht : isTag t) :
    Calls Tryz.prog 68 #[ptr K, .int .i64 r, .int .i64 t] w fun e w' => e = .returned (.bool (partB T m r t)) ∧ Below w.heap.size w w' := by
  obtain ⟨R, hR⟩ := get_at hr
  have hB1 := below_new w (.cells #[ptr K] 52)
  have hB2 := below_new (w.alloc (.cells #[ptr K] 52)) (.cells #[.int .i64 t] 72)
  have hB : Below w.heap.size w ((w.alloc (.cells #[ptr K] 52)).alloc (.cells #[.int .i64 t] 72)) := hB1.trans (hB2.mono hB1.size)
  have hF1 : Bk w.heap.size K ((w.alloc (.cells #[ptr K] 52)).alloc (.cells #[.int .i64 t] 72)) := (hB2.block _ (by simp)).trans (heap_alloc_new w _)
  have hF2 : Fx (w.heap.size + 1) 72 [.int .i64 t] ((w.alloc (.cells #[ptr K] 52)).alloc (.cells #[.int .i64 t] 72)) := by
    have := heap_alloc_new (w.alloc (.cells #[ptr K] 52)) (.cells #[.int .i64 t] 72)
    simpa [Fx] using this
  have hK := h.go hB
  obtain ⟨o, ho⟩ : ∃ o, partB T m r t = o := ⟨_, rfl⟩
  rw [ho]
  have HO := hide ho
  clear h hB1 hB2 ho
  go_enter Tryz.func68, Tryz.ntmps68
  go_upto_region 1 with fail
  generalize (w.alloc (.cells #[ptr K] 52)).alloc (.cells #[.int .i64 t] 72) = W at *
  obtain ⟨gr, go, bd, bp, era, -, -, -, x2, -, hbl, hbody⟩ := at_R hK.ta.rules hR
  have k2 := hK.bx.get (i := 2) rfl
  rw [era] at k2
  have c1 := hF1.get (i := 0) rfl
  have C := hide (some_any (c := bp) (partlyC_ts hK hF1 hF2 ht) hbody.at1 hbl (fun x hx => hK.pf.body R (List.mem_of_getElem? hR) x hx))
  have HW : Hid (partB T m r t = R.body.any fun x => hs m x t) := hide (by unfold partB bodyM; rw [Int.toNat_natCast, hR]; rfl)
  have HB := hide hB
  rw [← HW.out, HO.out] at C
  clear hF1 hF2 hK hbody hB HW ht era hR
  go_wp2_with (go_at_call 63; refine C.out.mono ?_; rintro _ w2 ⟨rfl, hb2⟩; have HB2 := hide hb2; clear hb2)
  go_ret
  exact ⟨rfl, HB.out.trans (HB2.out.mono HB.out.size)⟩
set_option maxRecDepth 100000 in
set_option maxHeartbeats 3200000 in
theorem beats_any {r s : Nat} (h : Kn K A T F n m ma mc w) (hr : r < T.rules.length) :
    Calls Tryz.prog 75 #[ptr K, .int .i64 r, .int .i64 s] w fun e w' => e = .returned (.bool (beatB T r s)) ∧ Below w.heap.size w w' := by
  obtain ⟨l, hl⟩ := get_at (l := T.beats) (i := r) (by rw [h.pf.ok.bl]; exact hr)
  obtain ⟨gr, go, bd, bp, era, -, x0, -, hbl, hbody⟩ := at_L h.ta.beats hl
  have k3 := h.bx.get (i := 3) rfl
  rw [era] at k3
  have C := hide (search_any (c := bp) hbody.at1 hbl (h.pf.beat l (List.mem_of_getElem? hl)) s)
  have HW : Hid (beatB T r s = decide ((s : Int) ∈ l)) := hide (by unfold beatB; rw [row_at (by rw [Int.toNat_natCast]; exact hl)])
  have hrb : r < T.beats.length := by rw [h.pf.ok.bl]; exact hr
  unfold Sr at C
  rw [HW.out]
  generalize decide ((s : Int) ∈ l) = o at *
  clear h hl hbody HW era hr
  go_enter Tryz.func75, Tryz.ntmps75
  go_wp2_with (go_at_call 101; refine C.out.mono ?_; rintro _ w2 ⟨⟨z, rfl⟩, rfl⟩)
  go_ret
  exact ⟨rfl, Below.refl _ _⟩
set_option maxRecDepth 100000 in
set_option maxHeartbeats 3200000 in
theorem plusStrict1_any {x : Int} (h : Kn K A T F n m ma mc w) (hb : Bk b K w) (hx : isRule T x) :
    Calls Tryz.prog 64 #[.int .i64 x, ptr b] w fun e w' => e = .returned (.bool (wholeB T m x 1)) ∧ Below w.heap.size w w' := by
  obtain ⟨hx0, hx1⟩ := hx
  obtain ⟨q, rfl⟩ := Int.eq_ofNat_of_zero_le hx0
  have C := hide (whole_any h (by omega) (.inl rfl) : Calls Tryz.prog 65 #[ptr K, .int .i64 q, .int .i64 1] w _)
  have c1 := hb.get (i := 0) rfl
  generalize wholeB T m (q : Int) 1 = o at *
  clear h hb
  go_enter Tryz.func64, Tryz.ntmps64
  go_wp2_with (go_at_call 65; refine C.out.mono ?_; rintro _ w2 ⟨rfl, hb2⟩; have HB := hide hb2; clear hb2)
  go_ret
  exact ⟨rfl, HB.out⟩
theorem plusStrict1_ts (h : Kn K A T F n m ma mc w) (hb : Bk b K w) : Ts w (fun x => wholeB T m x 1) (isRule T) (.func (.func 64) #[] #[ptr b]) :=
  ⟨_, _, rfl, enters_go Tryz.func64 (by kernel_rfl) (by kernel_rfl), fun x w' hx hw => plusStrict1_any (h.go hw) (hb.keep (hw.block _ hb.lt)) hx⟩
set_option maxRecDepth 100000 in
set_option maxHeartbeats 3200000 in
theorem minusStrict1_any {x : Int} (h : Kn K A T F n m ma mc w) (hb : Bk b K w) (hx : isRule T x) :
    Calls Tryz.prog 67 #[.int .i64 x, ptr b] w fun e w' => e = .returned (.bool (partB T m x 2)) ∧ Below w.heap.size w w' := by
  obtain ⟨hx0, hx1⟩ := hx
  obtain ⟨q, rfl⟩ := Int.eq_ofNat_of_zero_le hx0
  have C := hide (partly_any h (by omega) (.inr (.inl rfl)) : Calls Tryz.prog 68 #[ptr K, .int .i64 q, .int .i64 2] w _)
  have c1 := hb.get (i := 0) rfl
  generalize partB T m (q : Int) 2 = o at *
  clear h hb
  go_enter Tryz.func67, Tryz.ntmps67
  go_wp2_with (go_at_call 68; refine C.out.mono ?_; rintro _ w2 ⟨rfl, hb2⟩; have HB := hide hb2; clear hb2)
  go_ret
  exact ⟨rfl, HB.out⟩
theorem minusStrict1_ts (h : Kn K A T F n m ma mc w) (hb : Bk b K w) : Ts w (fun x => partB T m x 2) (isRule T) (.func (.func 67) #[] #[ptr b]) :=
  ⟨_, _, rfl, enters_go Tryz.func67 (by kernel_rfl) (by kernel_rfl), fun x w' hx hw => minusStrict1_any (h.go hw) (hb.keep (hw.block _ hb.lt)) hx⟩
set_option maxRecDepth 100000 in
set_option maxHeartbeats 3200000 in
theorem plusDefeasible1_any {x : Int} (h : Kn K A T F n m ma mc w) (hb : Bk b K w) (hx : isRule T x) :
    Calls Tryz.prog 69 #[.int .i64 x, ptr b] w fun e w' => e = .returned (.bool (wholeB T m x 3)) ∧ Below w.heap.size w w' := by
  obtain ⟨hx0, hx1⟩ := hx
  obtain ⟨q, rfl⟩ := Int.eq_ofNat_of_zero_le hx0
  have C := hide (whole_any h (by omega) (.inr (.inr (.inl rfl))) : Calls Tryz.prog 65 #[ptr K, .int .i64 q, .int .i64 3] w _)
  have c1 := hb.get (i := 0) rfl
  generalize wholeB T m (q : Int) 3 = o at *
  clear h hb
  go_enter Tryz.func69, Tryz.ntmps69
  go_wp2_with (go_at_call 65; refine C.out.mono ?_; rintro _ w2 ⟨rfl, hb2⟩; have HB := hide hb2; clear hb2)
  go_ret
  exact ⟨rfl, HB.out⟩
theorem plusDefeasible1_ts (h : Kn K A T F n m ma mc w) (hb : Bk b K w) : Ts w (fun x => wholeB T m x 3) (isRule T) (.func (.func 69) #[] #[ptr b]) :=
  ⟨_, _, rfl, enters_go Tryz.func69 (by kernel_rfl) (by kernel_rfl), fun x w' hx hw => plusDefeasible1_any (h.go hw) (hb.keep (hw.block _ hb.lt)) hx⟩
set_option maxRecDepth 100000 in
set_option maxHeartbeats 3200000 in
theorem plusDefeasible2_any {x : Int} (h : Kn K A T F n m ma mc w) (hb : Bk b K w) (hx : isRule T x) :
    Calls Tryz.prog 70 #[.int .i64 x, ptr b] w fun e w' => e = .returned (.bool (partB T m x 4)) ∧ Below w.heap.size w w' := by
  obtain ⟨hx0, hx1⟩ := hx
  obtain ⟨q, rfl⟩ := Int.eq_ofNat_of_zero_le hx0
  have C := hide (partly_any h (by omega) (.inr (.inr (.inr rfl))) : Calls Tryz.prog 68 #[ptr K, .int .i64 q, .int .i64 4] w _)
  have c1 := hb.get (i := 0) rfl
  generalize partB T m (q : Int) 4 = o at *
  clear h hb
  go_enter Tryz.func70, Tryz.ntmps70
  go_wp2_with (go_at_call 68; refine C.out.mono ?_; rintro _ w2 ⟨rfl, hb2⟩; have HB := hide hb2; clear hb2)
  go_ret
  exact ⟨rfl, HB.out⟩
set_option maxRecDepth 100000 in
set_option maxHeartbeats 3200000 in
theorem plusDefeasible3_any {x : Int} (h : Kn K A T F n m ma mc w) (hb : Bk b K w) (hx : isLit n x) :
    Calls Tryz.prog 71 #[.int .i64 x, ptr b] w fun e w' => e = .returned (.bool (hs m x 2)) ∧ Below w.heap.size w w' := by
  obtain ⟨hx0, hx1⟩ := hx
  obtain ⟨q, rfl⟩ := Int.eq_ofNat_of_zero_le hx0
  have C := hide (has_kn h (by omega) (.inr (.inl rfl)) : Calls Tryz.prog 34 #[ptr K, .int .i64 q, .int .i64 2] w _)
  have c1 := hb.get (i := 0) rfl
  generalize hs m (q : Int) 2 = o at *
  clear h hb
  go_enter Tryz.func71, Tryz.ntmps71
  go_wp2_with (go_at_call 34; refine C.out.mono ?_; rintro _ w2 ⟨rfl, hb2⟩; have HB := hide hb2; clear hb2)
  go_ret
  exact ⟨rfl, HB.out⟩
theorem plusDefeasible3_ts (h : Kn K A T F n m ma mc w) (hb : Bk b K w) : Ts w (fun x => hs m x 2) (isLit n) (.func (.func 71) #[] #[ptr b]) :=
  ⟨_, _, rfl, enters_go Tryz.func71 (by kernel_rfl) (by kernel_rfl), fun x w' hx hw => plusDefeasible3_any (h.go hw) (hb.keep (hw.block _ hb.lt)) hx⟩
set_option maxRecDepth 100000 in
set_option maxHeartbeats 3200000 in
theorem minusDefeasible1_any {x : Int} (h : Kn K A T F n m ma mc w) (hb : Bk b K w) (hx : isRule T x) :
    Calls Tryz.prog 76 #[.int .i64 x, ptr b] w fun e w' => e = .returned (.bool (wholeB T m x 3)) ∧ Below w.heap.size w w' := by
  obtain ⟨hx0, hx1⟩ := hx
  obtain ⟨q, rfl⟩ := Int.eq_ofNat_of_zero_le hx0
  have C := hide (whole_any h (by omega) (.inr (.inr (.inl rfl))) : Calls Tryz.prog 65 #[ptr K, .int .i64 q, .int .i64 3] w _)
  have c1 := hb.get (i := 0) rfl
  generalize wholeB T m (q : Int) 3 = o at *
  clear h hb
  go_enter Tryz.func76, Tryz.ntmps76
  go_wp2_with (go_at_call 65; refine C.out.mono ?_; rintro _ w2 ⟨rfl, hb2⟩; have HB := hide hb2; clear hb2)
  go_ret
  exact ⟨rfl, HB.out⟩
set_option maxRecDepth 100000 in
set_option maxHeartbeats 3200000 in
theorem minusDefeasible2_any {x : Int} (h : Kn K A T F n m ma mc w) (hb : Bk b K w) (hx : isRule T x) :
    Calls Tryz.prog 77 #[.int .i64 x, ptr b] w fun e w' => e = .returned (.bool (partB T m x 4)) ∧ Below w.heap.size w w' := by
  obtain ⟨hx0, hx1⟩ := hx
  obtain ⟨q, rfl⟩ := Int.eq_ofNat_of_zero_le hx0
  have C := hide (partly_any h (by omega) (.inr (.inr (.inr rfl))) : Calls Tryz.prog 68 #[ptr K, .int .i64 q, .int .i64 4] w _)
  have c1 := hb.get (i := 0) rfl
  generalize partB T m (q : Int) 4 = o at *
  clear h hb
  go_enter Tryz.func77, Tryz.ntmps77
  go_wp2_with (go_at_call 68; refine C.out.mono ?_; rintro _ w2 ⟨rfl, hb2⟩; have HB := hide hb2; clear hb2)
  go_ret
  exact ⟨rfl, HB.out⟩
theorem minusDefeasible2_ts (h : Kn K A T F n m ma mc w) (hb : Bk b K w) : Ts w (fun x => partB T m x 4) (isRule T) (.func (.func 77) #[] #[ptr b]) :=
  ⟨_, _, rfl, enters_go Tryz.func77 (by kernel_rfl) (by kernel_rfl), fun x w' hx hw => minusDefeasible2_any (h.go hw) (hb.keep (hw.block _ hb.lt)) hx⟩
set_option maxRecDepth 100000 in
set_option maxHeartbeats 3200000 in
theorem minusDefeasible3_any {x : Int} (h : Kn K A T F n m ma mc w) (hb : Bk b K w) (hx : isLit n x) :
    Calls Tryz.prog 78 #[.int .i64 x, ptr b] w fun e w' => e = .returned (.bool (hs m x 1)) ∧ Below w.heap.size w w' := by
  obtain ⟨hx0, hx1⟩ := hx
  obtain ⟨q, rfl⟩ := Int.eq_ofNat_of_zero_le hx0
  have C := hide (has_kn h (by omega) (.inl rfl) : Calls Tryz.prog 34 #[ptr K, .int .i64 q, .int .i64 1] w _)
  have c1 := hb.get (i := 0) rfl
  generalize hs m (q : Int) 1 = o at *
  clear h hb
  go_enter Tryz.func78, Tryz.ntmps78
  go_wp2_with (go_at_call 34; refine C.out.mono ?_; rintro _ w2 ⟨rfl, hb2⟩; have HB := hide hb2; clear hb2)
  go_ret
  exact ⟨rfl, HB.out⟩
theorem minusDefeasible3_ts (h : Kn K A T F n m ma mc w) (hb : Bk b K w) : Ts w (fun x => hs m x 1) (isLit n) (.func (.func 78) #[] #[ptr b]) :=
  ⟨_, _, rfl, enters_go Tryz.func78 (by kernel_rfl) (by kernel_rfl), fun x w' hx hw => minusDefeasible3_any (h.go hw) (hb.keep (hw.block _ hb.lt)) hx⟩
end
end Go.Proofs.YtddlhlifkhaokaaGreat
