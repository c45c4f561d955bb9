/- everyAgainst, someAgainst, plusStrict, minusStrict; what is asked of rules against. (tools/gen15/kc.py wrote this.) -/
import Derived.Test.YtddlhlifkhaokaaGreatKn
import Derived.Deep.RegionHeld3
namespace Go.Proofs.YtddlhlifkhaokaaGreat
open Go.RowKit

theorem cell_on {X Y : World} {p : Addr} {u : Value} (h : X.cell? p = some u) (hb : Below X.heap.size X Y) : Y.cell? p = some u := (World.cell?_of_block (hb.block p.block (World.block_lt_of_cell? X _ h))).trans h
abbrev S4 (wz : World) (p0 p1 p2 p3 : Addr) (u0 u1 u2 u3 : Value) (X : World) : Prop := X.cell? p0 = some u0 ∧ X.cell? p1 = some u1 ∧ X.cell? p2 = some u2 ∧ X.cell? p3 = some u3 ∧ Below wz.heap.size wz X
section
variable {wz X Y : World} {p0 p1 p2 p3 : Addr} {u0 u1 u2 u3 : Value}
theorem S4.b (h : S4 wz p0 p1 p2 p3 u0 u1 u2 u3 X) : Below wz.heap.size wz X := h.2.2.2.2
theorem S4.drew (h : S4 wz p0 p1 p2 p3 u0 u1 u2 u3 X) : S4 wz p0 p1 p2 p3 u0 u1 u2 u3 X.drew := ⟨h.1, h.2.1, h.2.2.1, h.2.2.2.1, (h.2.2.2.2).drew⟩
theorem S4.below (h : S4 wz p0 p1 p2 p3 u0 u1 u2 u3 X) (hb : Below X.heap.size X Y) : S4 wz p0 p1 p2 p3 u0 u1 u2 u3 Y := ⟨cell_on (h.1) hb, cell_on (h.2.1) hb, cell_on (h.2.2.1) hb, cell_on (h.2.2.2.1) hb, (S4.b h).trans (hb.mono (S4.b h).size)⟩
end
abbrev S6 (wz : World) (p0 p1 p2 p3 p4 p5 : Addr) (u0 u1 u2 u3 u4 u5 : Value) (X : World) : Prop := X.cell? p0 = some u0 ∧ X.cell? p1 = some u1 ∧ X.cell? p2 = some u2 ∧ X.cell? p3 = some u3 ∧ X.cell? p4 = some u4 ∧ X.cell? p5 = some u5 ∧ Below wz.heap.size wz X
section
variable {wz X Y : World} {p0 p1 p2 p3 p4 p5 : Addr} {u0 u1 u2 u3 u4 u5 : Value}
theorem S6.b (h : S6 wz p0 p1 p2 p3 p4 p5 u0 u1 u2 u3 u4 u5 X) : Below wz.heap.size wz X := h.2.2.2.2.2.2
theorem S6.drew (h : S6 wz p0 p1 p2 p3 p4 p5 u0 u1 u2 u3 u4 u5 X) : S6 wz p0 p1 p2 p3 p4 p5 u0 u1 u2 u3 u4 u5 X.drew := ⟨h.1, h.2.1, h.2.2.1, h.2.2.2.1, h.2.2.2.2.1, h.2.2.2.2.2.1, (h.2.2.2.2.2.2).drew⟩
theorem S6.below (h : S6 wz p0 p1 p2 p3 p4 p5 u0 u1 u2 u3 u4 u5 X) (hb : Below X.heap.size X Y) : S6 wz p0 p1 p2 p3 p4 p5 u0 u1 u2 u3 u4 u5 Y := ⟨cell_on (h.1) hb, cell_on (h.2.1) hb, cell_on (h.2.2.1) hb, cell_on (h.2.2.2.1) hb, cell_on (h.2.2.2.2.1) hb, cell_on (h.2.2.2.2.2.1) hb, (S6.b h).trans (hb.mono (S6.b h).size)⟩
end
abbrev S8 (wz : World) (p0 p1 p2 p3 p4 p5 p6 p7 : Addr) (u0 u1 u2 u3 u4 u5 u6 u7 : Value) (X : World) : Prop := X.cell? p0 = some u0 ∧ X.cell? p1 = some u1 ∧ X.cell? p2 = some u2 ∧ X.cell? p3 = some u3 ∧ X.cell? p4 = some u4 ∧ X.cell? p5 = some u5 ∧ X.cell? p6 = some u6 ∧ X.cell? p7 = some u7 ∧ Below wz.heap.size wz X
section
variable {wz X Y : World} {p0 p1 p2 p3 p4 p5 p6 p7 : Addr} {u0 u1 u2 u3 u4 u5 u6 u7 : Value}
theorem S8.b (h : S8 wz p0 p1 p2 p3 p4 p5 p6 p7 u0 u1 u2 u3 u4 u5 u6 u7 X) : Below wz.heap.size wz X := h.2.2.2.2.2.2.2.2
theorem S8.drew (h : S8 wz p0 p1 p2 p3 p4 p5 p6 p7 u0 u1 u2 u3 u4 u5 u6 u7 X) : S8 wz p0 p1 p2 p3 p4 p5 p6 p7 u0 u1 u2 u3 u4 u5 u6 u7 X.drew := ⟨h.1, h.2.1, h.2.2.1, h.2.2.2.1, h.2.2.2.2.1, h.2.2.2.2.2.1, h.2.2.2.2.2.2.1, h.2.2.2.2.2.2.2.1, (h.2.2.2.2.2.2.2.2).drew⟩
theorem S8.below (h : S8 wz p0 p1 p2 p3 p4 p5 p6 p7 u0 u1 u2 u3 u4 u5 u6 u7 X) (hb : Below X.heap.size X Y) : S8 wz p0 p1 p2 p3 p4 p5 p6 p7 u0 u1 u2 u3 u4 u5 u6 u7 Y := ⟨cell_on (h.1) hb, cell_on (h.2.1) hb, cell_on (h.2.2.1) hb, cell_on (h.2.2.2.1) hb, cell_on (h.2.2.2.2.1) hb, cell_on (h.2.2.2.2.2.1) hb, cell_on (h.2.2.2.2.2.2.1) hb, cell_on (h.2.2.2.2.2.2.2.1) hb, (S8.b h).trans (hb.mono (S8.b h).size)⟩
end
abbrev Bf (b : Nat) (v : Value) (w : World) : Prop := Fx b 83 [v] w
abbrev Bi (b : Nat) (x : Int) (w : World) : Prop := Fx b 3 [.int .i64 x] w
section
variable {K n b b2 : Nat} {A : Ka} {T : Th} {F m : List Int} {ma : Option Addr} {mc : Nat} {w w' : World} {p : Int → Bool} {v : Value}
set_option maxRecDepth 100000 in
set_option maxHeartbeats 6400000 in
theorem everyAgainstC_any {x : Int} (h : Kn K A T F n m ma mc w) (hb : Bk b K w) (h2 : Bf b2 v w) (hv : Ts w p (isRule T) v) (hx : isLit n x) :
    Calls Tryz.prog 100 #[.int .i64 x, ptr b, ptr b2] w fun e w' => e = .returned (.bool ((rulesL T kA x).all p)) ∧ Below w.heap.size w w' := by
  obtain ⟨hx0, hx1⟩ := hx
  obtain ⟨q, rfl⟩ := Int.eq_ofNat_of_zero_le hx0
  have hqn : q < n := by omega
  obtain ⟨_, _, la, lc, eg, -, x0, -, hbl, hbody⟩ := at_L h.l2 (grp_at hqn)
  cases eg
  rw [Nat.zero_add] at x0
  have k7 := h.bx.get (i := 7) rfl
  have c1 := hb.get (i := 0) rfl
  have c2 := h2.get (i := 0) rfl
  have C : Hid (∀ X, Below w.heap.size w X → Calls Tryz.prog 66 #[.slice la (rulesL T kA q).length lc, v] X fun e w' => e = .returned (.bool ((rulesL T kA q).all p)) ∧ Below X.heap.size X w') := hide fun X hX => every_any (c := lc) (hv.go hX) (hbody.at1.below hX) hbl (fun x hx => forL_in hx)
  generalize (rulesL T kA q).all p = o at *
  clear h hb h2 hbody hv
  have HT : S4 w ⟨b, 0, none⟩ ⟨K, 7, none⟩ ⟨A.s2, q, none⟩ ⟨b2, 0, none⟩ (ptr K) (.slice (some ⟨A.s2, 0, none⟩) n n) (.slice la (rulesL T kA q).length lc) (v) w := ⟨c1, k7, x0, c2, Below.refl _ _⟩
  go_enter Tryz.func100, Tryz.ntmps100
  go_upto_region 1 with fail
  go_region_held3 (fun X : World => S4 w ⟨b, 0, none⟩ ⟨K, 7, none⟩ ⟨A.s2, q, none⟩ ⟨b2, 0, none⟩ (ptr K) (.slice (some ⟨A.s2, 0, none⟩) n n) (.slice la (rulesL T kA q).length lc) (v) X) (first | exact S4.drew ‹_› | assumption | exact S4.below ‹_› ‹_›) (first | (go_at_call 66; refine (C.out _ (S4.b ‹_›)).mono ?_; rintro e w' ⟨rfl, hb⟩))
  rename_i hS4
  go_wp2_with fail
  go_ret
  exact ⟨rfl, S4.b hS4⟩
theorem everyAgainstC_ts (h : Kn K A T F n m ma mc w) (hb : Bk b K w) (h2 : Bf b2 v w) (hv : Ts w p (isRule T) v) : Ts w (fun x => (rulesL T kA x).all p) (isLit n) (.func (.func 100) #[] #[ptr b, ptr b2]) :=
  ⟨_, _, rfl, enters_go Tryz.func100 (by kernel_rfl) (by kernel_rfl), fun x w' hx hw => everyAgainstC_any (h.go hw) (hb.keep (hw.block _ hb.lt)) (h2.keep (hw.block _ h2.lt)) (hv.go hw) hx⟩
set_option maxRecDepth 100000 in
set_option maxHeartbeats 6400000 in
theorem everyAgainst_any {q : Nat} (h : Kn K A T F n m ma mc w) (hq : q < n) (hv : Ts w p (isRule T) v) :
    Calls Tryz.prog 72 #[ptr K, .int .i64 q, v] w fun e w' => e = .returned (.bool ((row T.foes q).all fun f => (rulesL T kA f).all p)) ∧ Below w.heap.size w w' := by
  have hB1 := below_new w (.cells #[ptr K] 52)
  have hB2 := below_new (w.alloc (.cells #[ptr K] 52)) (.cells #[v] 83)
  have hB : Below w.heap.size w ((w.alloc (.cells #[ptr K] 52)).alloc (.cells #[v] 83)) := hB1.trans (hB2.mono hB1.size)
  have hF1 : Bk w.heap.size K ((w.alloc (.cells #[ptr K] 52)).alloc (.cells #[v] 83)) := (hB2.block _ (by simp)).trans (heap_alloc_new w _)
  have hF2 : Bf (w.heap.size + 1) v ((w.alloc (.cells #[ptr K] 52)).alloc (.cells #[v] 83)) := by
    have := heap_alloc_new (w.alloc (.cells #[ptr K] 52)) (.cells #[v] 83)
    simpa [Fx] using this
  have hK := h.go hB
  have hV := hv.go hB
  obtain ⟨o, ho⟩ : ∃ o, ((row T.foes q).all fun f => (rulesL T kA f).all p) = o := ⟨_, rfl⟩
  rw [ho]
  have HO := hide ho
  obtain ⟨fk, caps, efv, hfv, -⟩ := hv
  rw [efv] at hB hF1 hF2 hK hV ⊢
  clear h hB1 hB2 ho efv
  go_enter Tryz.func72, Tryz.ntmps72
  go_upto_region 1 with fail
  generalize (w.alloc (.cells #[ptr K] 52)).alloc (.cells #[.func (.func fk) #[] caps] 83) = W at *
  obtain ⟨l, hl⟩ := get_at (l := T.foes) (i := q) (by have := hK.pf.ok.fl; have := hK.pf.ln; omega)
  have hfl : q < T.foes.length := (List.getElem?_eq_some_iff.1 hl).1
  obtain ⟨gr, go, bd, bp, era, -, x0, -, hbl, hbody⟩ := at_L hK.ta.foes hl
  have k1 := hK.bx.get (i := 1) rfl
  rw [era] at k1
  have c1 := hF1.get (i := 0) rfl
  have er : row T.foes (q : Int) = l := row_at (by rw [Int.toNat_natCast]; exact hl)
  have C := hide (every_any (c := bp) (everyAgainstC_ts hK hF1 hF2 hV) hbody.at1 hbl (fun x hx => hK.pf.foe q hq x (by rw [er]; exact hx)))
  have HB := hide hB
  rw [er] at HO
  rw [HO.out] at C
  clear hF1 hF2 hK hbody hB era hl hV er
  go_wp2_with (go_at_call 66; refine C.out.mono ?_; rintro _ w2 ⟨rfl, hb2⟩; have HB2 := hide hb2; clear hb2)
  go_ret
  exact ⟨rfl, HB.out.trans (HB2.out.mono HB.out.size)⟩
set_option maxRecDepth 100000 in
set_option maxHeartbeats 6400000 in
theorem someAgainstC_any {x : Int} (h : Kn K A T F n m ma mc w) (hb : Bk b K w) (h2 : Bf b2 v w) (hv : Ts w p (isRule T) v) (hx : isLit n x) :
    Calls Tryz.prog 102 #[.int .i64 x, ptr b, ptr b2] w fun e w' => e = .returned (.bool ((rulesL T kA x).any p)) ∧ Below w.heap.size w w' := by
  obtain ⟨hx0, hx1⟩ := hx
  obtain ⟨q, rfl⟩ := Int.eq_ofNat_of_zero_le hx0
  have hqn : q < n := by omega
  obtain ⟨_, _, la, lc, eg, -, x0, -, hbl, hbody⟩ := at_L h.l2 (grp_at hqn)
  cases eg
  rw [Nat.zero_add] at x0
  have k7 := h.bx.get (i := 7) rfl
  have c1 := hb.get (i := 0) rfl
  have c2 := h2.get (i := 0) rfl
  have C : Hid (∀ X, Below w.heap.size w X → Calls Tryz.prog 63 #[.slice la (rulesL T kA q).length lc, v] X fun e w' => e = .returned (.bool ((rulesL T kA q).any p)) ∧ Below X.heap.size X w') := hide fun X hX => some_any (c := lc) (hv.go hX) (hbody.at1.below hX) hbl (fun x hx => forL_in hx)
  generalize (rulesL T kA q).any p = o at *
  clear h hb h2 hbody hv
  have HT : S4 w ⟨b, 0, none⟩ ⟨K, 7, none⟩ ⟨A.s2, q, none⟩ ⟨b2, 0, none⟩ (ptr K) (.slice (some ⟨A.s2, 0, none⟩) n n) (.slice la (rulesL T kA q).length lc) (v) w := ⟨c1, k7, x0, c2, Below.refl _ _⟩
  go_enter Tryz.func102, Tryz.ntmps102
  go_upto_region 1 with fail
  go_region_held3 (fun X : World => S4 w ⟨b, 0, none⟩ ⟨K, 7, none⟩ ⟨A.s2, q, none⟩ ⟨b2, 0, none⟩ (ptr K) (.slice (some ⟨A.s2, 0, none⟩) n n) (.slice la (rulesL T kA q).length lc) (v) X) (first | exact S4.drew ‹_› | assumption | exact S4.below ‹_› ‹_›) (first | (go_at_call 63; refine (C.out _ (S4.b ‹_›)).mono ?_; rintro e w' ⟨rfl, hb⟩))
  rename_i hS4
  go_wp2_with fail
  go_ret
  exact ⟨rfl, S4.b hS4⟩
theorem someAgainstC_ts (h : Kn K A T F n m ma mc w) (hb : Bk b K w) (h2 : Bf b2 v w) (hv : Ts w p (isRule T) v) : Ts w (fun x => (rulesL T kA x).any p) (isLit n) (.func (.func 102) #[] #[ptr b, ptr b2]) :=
  ⟨_, _, rfl, enters_go Tryz.func102 (by kernel_rfl) (by kernel_rfl), fun x w' hx hw => someAgainstC_any (h.go hw) (hb.keep (hw.block _ hb.lt)) (h2.keep (hw.block _ h2.lt)) (hv.go hw) hx⟩
set_option maxRecDepth 100000 in
set_option maxHeartbeats 6400000 in
theorem someAgainst_any {q : Nat} (h : Kn K A T F n m ma mc w) (hq : q < n) (hv : Ts w p (isRule T) v) :
    Calls Tryz.prog 79 #[ptr K, .int .i64 q, v] w fun e w' => e = .returned (.bool ((row T.foes q).any fun f => (rulesL T kA f).any p)) ∧ Below w.heap.size w w' := by
  have hB1 := below_new w (.cells #[ptr K] 52)
  have hB2 := below_new (w.alloc (.cells #[ptr K] 52)) (.cells #[v] 83)
  have hB : Below w.heap.size w ((w.alloc (.cells #[ptr K] 52)).alloc (.cells #[v] 83)) := hB1.trans (hB2.mono hB1.size)
  have hF1 : Bk w.heap.size K ((w.alloc (.cells #[ptr K] 52)).alloc (.cells #[v] 83)) := (hB2.block _ (by simp)).trans (heap_alloc_new w _)
  have hF2 : Bf (w.heap.size + 1) v ((w.alloc (.cells #[ptr K] 52)).alloc (.cells #[v] 83)) := by
    have := heap_alloc_new (w.alloc (.cells #[ptr K] 52)) (.cells #[v] 83)
    simpa [Fx] using this
  have hK := h.go hB
  have hV := hv.go hB
  obtain ⟨o, ho⟩ : ∃ o, ((row T.foes q).any fun f => (rulesL T kA f).any p) = o := ⟨_, rfl⟩
  rw [ho]
  have HO := hide ho
  obtain ⟨fk, caps, efv, hfv, -⟩ := hv
  rw [efv] at hB hF1 hF2 hK hV ⊢
  clear h hB1 hB2 ho efv
  go_enter Tryz.func79, Tryz.ntmps79
  go_upto_region 1 with fail
  generalize (w.alloc (.cells #[ptr K] 52)).alloc (.cells #[.func (.func fk) #[] caps] 83) = W at *
  obtain ⟨l, hl⟩ := get_at (l := T.foes) (i := q) (by have := hK.pf.ok.fl; have := hK.pf.ln; omega)
  have hfl : q < T.foes.length := (List.getElem?_eq_some_iff.1 hl).1
  obtain ⟨gr, go, bd, bp, era, -, x0, -, hbl, hbody⟩ := at_L hK.ta.foes hl
  have k1 := hK.bx.get (i := 1) rfl
  rw [era] at k1
  have c1 := hF1.get (i := 0) rfl
  have er : row T.foes (q : Int) = l := row_at (by rw [Int.toNat_natCast]; exact hl)
  have C := hide (some_any (c := bp) (someAgainstC_ts hK hF1 hF2 hV) hbody.at1 hbl (fun x hx => hK.pf.foe q hq x (by rw [er]; exact hx)))
  have HB := hide hB
  rw [er] at HO
  rw [HO.out] at C
  clear hF1 hF2 hK hbody hB era hl hV er
  go_wp2_with (go_at_call 63; refine C.out.mono ?_; rintro _ w2 ⟨rfl, hb2⟩; have HB2 := hide hb2; clear hb2)
  go_ret
  exact ⟨rfl, HB.out.trans (HB2.out.mono HB.out.size)⟩
set_option maxRecDepth 100000 in
set_option maxHeartbeats 6400000 in
theorem plusStrict_any {q : Nat} (h : Kn K A T F n m ma mc w) (hq : q < n) :
    Calls Tryz.prog 44 #[ptr K, .int .i64 q] w fun e w' => e = .returned (.bool (plusS T F m q)) ∧ Below w.heap.size w w' := by
  have hB := below_new w (.cells #[ptr K] 52)
  have hF1 : Bk w.heap.size K (w.alloc (.cells #[ptr K] 52)) := heap_alloc_new w _
  have hK := h.go hB
  obtain ⟨o, ho⟩ : ∃ o, plusS T F m q = o := ⟨_, rfl⟩
  rw [ho]
  have HO := hide ho
  clear h ho
  go_enter Tryz.func44, Tryz.ntmps44
  go_upto_region 1 with fail
  generalize w.alloc (.cells #[ptr K] 52) = W at *
  obtain ⟨_, _, la, lc, eg, -, x0, -, hbl, hbody⟩ := at_L hK.l0 (grp_at hq)
  cases eg
  rw [Nat.zero_add] at x0
  have k4 := hK.bx.get (i := 4) rfl
  have k5 := hK.bx.get (i := 5) rfl
  have f0 := hK.ff.get (facB_at hq)
  have c1 := hF1.get (i := 0) rfl
  have C := hide (some_any (c := lc) (plusStrict1_ts hK hF1) hbody.at1 hbl (fun x hx => forL_in hx))
  have HB := hide hB
  unfold plusS at HO
  clear hF1 hK hbody hB
  by_cases hf : (q : Int) ∈ F
  · have HE : Hid (o = true) := hide (by rw [← HO.out, decide_eq_true hf]; rfl)
    rw [decide_eq_true hf] at f0
    clear hf C HO x0
    go_wp2_with fail
    go_ret
    exact ⟨by rw [HE.out]; rfl, HB.out⟩
  · have HE : Hid ((rulesL T kS q).any (fun r => wholeB T m r 1) = o) := hide (by rw [← HO.out, decide_eq_false hf]; rfl)
    rw [decide_eq_false hf] at f0
    rw [HE.out] at C
    clear hf HO
    go_wp2_with (go_at_call 63; refine C.out.mono ?_; rintro _ w2 ⟨rfl, hb2⟩; have HB2 := hide hb2; clear hb2)
    go_ret
    exact ⟨rfl, HB.out.trans (HB2.out.mono HB.out.size)⟩
set_option maxRecDepth 100000 in
set_option maxHeartbeats 6400000 in
theorem minusStrict_any {q : Nat} (h : Kn K A T F n m ma mc w) (hq : q < n) :
    Calls Tryz.prog 45 #[ptr K, .int .i64 q] w fun e w' => e = .returned (.bool (minusS T F m q)) ∧ Below w.heap.size w w' := by
  have hB := below_new w (.cells #[ptr K] 52)
  have hF1 : Bk w.heap.size K (w.alloc (.cells #[ptr K] 52)) := heap_alloc_new w _
  have hK := h.go hB
  obtain ⟨o, ho⟩ : ∃ o, minusS T F m q = o := ⟨_, rfl⟩
  rw [ho]
  have HO := hide ho
  clear h ho
  go_enter Tryz.func45, Tryz.ntmps45
  go_upto_region 1 with fail
  generalize w.alloc (.cells #[ptr K] 52) = W at *
  obtain ⟨_, _, la, lc, eg, -, x0, -, hbl, hbody⟩ := at_L hK.l0 (grp_at hq)
  cases eg
  rw [Nat.zero_add] at x0
  have k4 := hK.bx.get (i := 4) rfl
  have k5 := hK.bx.get (i := 5) rfl
  have f0 := hK.ff.get (facB_at hq)
  have c1 := hF1.get (i := 0) rfl
  have C := hide (every_any (c := lc) (minusStrict1_ts hK hF1) hbody.at1 hbl (fun x hx => forL_in hx))
  have HB := hide hB
  unfold minusS at HO
  clear hF1 hK hbody hB
  by_cases hf : (q : Int) ∈ F
  · have HE : Hid (o = false) := hide (by rw [← HO.out, decide_eq_true hf]; rfl)
    rw [decide_eq_true hf] at f0
    clear hf C HO x0
    go_wp2_with fail
    go_ret
    exact ⟨by rw [HE.out]; rfl, HB.out⟩
  · have HE : Hid ((rulesL T kS q).all (fun r => partB T m r 2) = o) := hide (by rw [← HO.out, decide_eq_false hf]; rfl)
    rw [decide_eq_false hf] at f0
    rw [HE.out] at C
    clear hf HO
    go_wp2_with (go_at_call 66; refine C.out.mono ?_; rintro _ w2 ⟨rfl, hb2⟩; have HB2 := hide hb2; clear hb2)
    go_ret
    exact ⟨rfl, HB.out.trans (HB2.out.mono HB.out.size)⟩
end
end Go.Proofs.YtddlhlifkhaokaaGreat
