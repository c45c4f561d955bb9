/- plusDefeasible, minusDefeasible. (tools/gen15/kd.py wrote this.) -/
import Derived.Test.YtddlhlifkhaokaaGreatKc
namespace Go.Proofs.YtddlhlifkhaokaaGreat
open Go.RowKit

abbrev S7 (wz : World) (p0 p1 p2 p3 p4 p5 p6 : Addr) (u0 u1 u2 u3 u4 u5 u6 : Value) (X : World) : Prop := X.cell? p0 = some u0 ∧ X.cell? p1 = some u1 ∧ X.cell? p2 = some u2 ∧ X.cell? p3 = some u3 ∧ X.cell? p4 = some u4 ∧ X.cell? p5 = some u5 ∧ X.cell? p6 = some u6 ∧ Below wz.heap.size wz X
section
variable {wz X Y : World} {p0 p1 p2 p3 p4 p5 p6 : Addr} {u0 u1 u2 u3 u4 u5 u6 : Value}
theorem S7.b (h : S7 wz p0 p1 p2 p3 p4 p5 p6 u0 u1 u2 u3 u4 u5 u6 X) : Below wz.heap.size wz X := h.2.2.2.2.2.2.2
theorem S7.drew (h : S7 wz p0 p1 p2 p3 p4 p5 p6 u0 u1 u2 u3 u4 u5 u6 X) : S7 wz p0 p1 p2 p3 p4 p5 p6 u0 u1 u2 u3 u4 u5 u6 X.drew := ⟨h.1, h.2.1, h.2.2.1, h.2.2.2.1, h.2.2.2.2.1, h.2.2.2.2.2.1, h.2.2.2.2.2.2.1, (h.2.2.2.2.2.2.2).drew⟩
theorem S7.below (h : S7 wz p0 p1 p2 p3 p4 p5 p6 u0 u1 u2 u3 u4 u5 u6 X) (hb : Below X.heap.size X Y) : S7 wz p0 p1 p2 p3 p4 p5 p6 u0 u1 u2 u3 u4 u5 u6 Y := ⟨cell_on (h.1) hb, cell_on (h.2.1) hb, cell_on (h.2.2.1) hb, cell_on (h.2.2.2.1) hb, cell_on (h.2.2.2.2.1) hb, cell_on (h.2.2.2.2.2.1) hb, cell_on (h.2.2.2.2.2.2.1) hb, (S7.b h).trans (hb.mono (S7.b h).size)⟩
end
section
variable {K n b b2 bs bu br bq q s : Nat} {A : Ka} {T : Th} {F m : List Int} {ma : Option Addr} {mc : Nat} {w w' : World} {p : Int → Bool} {v : Value}
set_option maxRecDepth 100000 in
set_option maxHeartbeats 6400000 in
theorem plusB_any {x : Int} (h : Kn K A T F n m ma mc w) (hb : Bk b K w) (h2 : Bi bs s w) (h3 : Bf bu (.func (.func 69) #[] #[ptr b]) w) (hx : isRule T x) :
    Calls Tryz.prog 74 #[.int .i64 x, ptr b, ptr bs, ptr bu] w fun e w' => e = .returned (.bool (beatB T x s && wholeB T m x 3)) ∧ Below w.heap.size w w' := by
  have CU : Hid (∀ X, Below w.heap.size w X → Calls Tryz.prog 69 #[.int .i64 x, ptr b] X fun e w' => e = .returned (.bool (wholeB T m x 3)) ∧ Below X.heap.size X w') := hide fun X hX => plusDefeasible1_any (h.go hX) (hb.keep (hX.block _ hb.lt)) hx
  obtain ⟨hx0, hx1⟩ := hx
  obtain ⟨r, rfl⟩ := Int.eq_ofNat_of_zero_le hx0
  have CB := hide (beats_any (s := s) h (by omega : r < T.rules.length))
  have c1 := hb.get (i := 0) rfl
  have c2 := h2.get (i := 0) rfl
  have c3 := h3.get (i := 0) rfl
  generalize wholeB T m r 3 = o at *
  generalize beatB T r s = o1 at *
  clear h hb h2 h3
  go_enter Tryz.func74, Tryz.ntmps74
  cases o1 with
  | true =>
    go_wp2_with (first | (go_at_call 75; refine CB.out.mono ?_; rintro _ w2 ⟨rfl, hb2⟩; have cu2 := cell_on c3 hb2; have HB := hide hb2; clear hb2) | (go_at_call 69; refine (CU.out _ HB.out).mono ?_; rintro _ w3 ⟨rfl, hb3⟩; have HB3 := hide hb3; clear hb3))
    go_ret
    exact ⟨by simp, HB.out.trans (HB3.out.mono HB.out.size)⟩
  | false =>
    go_wp2_with (first | (go_at_call 75; refine CB.out.mono ?_; rintro _ w2 ⟨rfl, hb2⟩; have cu2 := cell_on c3 hb2; have HB := hide hb2; clear hb2))
    go_ret
    exact ⟨by simp, HB.out⟩
theorem plusB_ts (h : Kn K A T F n m ma mc w) (hb : Bk b K w) (h2 : Bi bs s w) (h3 : Bf bu (.func (.func 69) #[] #[ptr b]) w) : Ts w (fun x => beatB T x s && wholeB T m x 3) (isRule T) (.func (.func 74) #[] #[ptr b, ptr bs, ptr bu]) :=
  ⟨_, _, rfl, enters_go Tryz.func74 (by kernel_rfl) (by kernel_rfl), fun x w' hx hw => plusB_any (h.go hw) (hb.keep (hw.block _ hb.lt)) (h2.keep (hw.block _ h2.lt)) (h3.keep (hw.block _ h3.lt)) hx⟩
set_option maxRecDepth 100000 in
set_option maxHeartbeats 6400000 in
theorem minusB_any {x : Int} (h : Kn K A T F n m ma mc w) (hb : Bk b K w) (h2 : Bi bs s w) (h3 : Bf br (.func (.func 77) #[] #[ptr b]) w) (hx : isRule T x) :
    Calls Tryz.prog 81 #[.int .i64 x, ptr br, ptr b, ptr bs] w fun e w' => e = .returned (.bool (partB T m x 4 || !beatB T x s)) ∧ Below w.heap.size w w' := by
  have CU := hide (minusDefeasible2_any h hb hx)
  obtain ⟨hx0, hx1⟩ := hx
  obtain ⟨r, rfl⟩ := Int.eq_ofNat_of_zero_le hx0
  have CB : Hid (∀ X, Below w.heap.size w X → Calls Tryz.prog 75 #[ptr K, .int .i64 r, .int .i64 s] X fun e w' => e = .returned (.bool (beatB T r s)) ∧ Below X.heap.size X w') := hide fun X hX => beats_any (s := s) (h.go hX) (by omega : r < T.rules.length)
  have c1 := hb.get (i := 0) rfl
  have c2 := h2.get (i := 0) rfl
  have c3 := h3.get (i := 0) rfl
  generalize partB T m r 4 = o at *
  generalize beatB T r s = o1 at *
  clear h hb h2 h3
  go_enter Tryz.func81, Tryz.ntmps81
  cases o with
  | true =>
    go_wp2_with (first | (go_at_call 77; refine CU.out.mono ?_; rintro _ w2 ⟨rfl, hb2⟩; have cu2 := cell_on c1 hb2; have cu3 := cell_on c2 hb2; have HB := hide hb2; clear hb2))
    go_ret
    exact ⟨by simp, HB.out⟩
  | false =>
    go_wp2_with (first | (go_at_call 77; refine CU.out.mono ?_; rintro _ w2 ⟨rfl, hb2⟩; have cu2 := cell_on c1 hb2; have cu3 := cell_on c2 hb2; have HB := hide hb2; clear hb2) | (go_at_call 75; refine (CB.out _ HB.out).mono ?_; rintro _ w3 ⟨rfl, hb3⟩; have HB3 := hide hb3; clear hb3))
    go_ret
    exact ⟨by simp, HB.out.trans (HB3.out.mono HB.out.size)⟩
theorem minusB_ts (h : Kn K A T F n m ma mc w) (hb : Bk b K w) (h2 : Bi bs s w) (h3 : Bf br (.func (.func 77) #[] #[ptr b]) w) : Ts w (fun x => partB T m x 4 || !beatB T x s) (isRule T) (.func (.func 81) #[] #[ptr br, ptr b, ptr bs]) :=
  ⟨_, _, rfl, enters_go Tryz.func81 (by kernel_rfl) (by kernel_rfl), fun x w' hx hw => minusB_any (h.go hw) (hb.keep (hw.block _ hb.lt)) (h2.keep (hw.block _ h2.lt)) (h3.keep (hw.block _ h3.lt)) hx⟩
set_option maxRecDepth 100000 in
set_option maxHeartbeats 6400000 in
theorem atkP_any {x : Int} (h : Kn K A T F n m ma mc w) (hb : Bk b K w) (hq : Bi bq q w) (hqn : q < n) (hu : Bf bu (.func (.func 69) #[] #[ptr b]) w) (hr : Bf br (.func (.func 70) #[] #[ptr b]) w) (hx : isRule T x) :
    Calls Tryz.prog 73 #[.int .i64 x, ptr br, ptr b, ptr bq, ptr bu] w fun e w' => e = .returned (.bool (atkP T m q x)) ∧ Below w.heap.size w w' := by
  obtain ⟨hx0, hx1⟩ := hx
  obtain ⟨s, rfl⟩ := Int.eq_ofNat_of_zero_le hx0
  have hB := below_new w (.cells #[.int .i64 s] 3)
  have hS : Bi w.heap.size s (w.alloc (.cells #[.int .i64 s] 3)) := heap_alloc_new w _
  have hK := h.go hB
  have hb2 := hb.keep (hB.block _ hb.lt)
  have hq2 := hq.keep (hB.block _ hq.lt)
  have hu2 := hu.keep (hB.block _ hu.lt)
  have hr2 := hr.keep (hB.block _ hr.lt)
  obtain ⟨o, ho⟩ : ∃ o, atkP T m q s = o := ⟨_, rfl⟩
  rw [ho]
  unfold atkP at ho
  have HO := hide ho
  clear h ho hb hq hu hr
  go_enter Tryz.func73, Tryz.ntmps73
  go_upto_region 1 with fail
  generalize w.alloc (.cells #[.int .i64 s] 3) = W at *
  obtain ⟨_, _, la, lc, eg, -, x0, -, hbl, hbody⟩ := at_L hK.l1 (grp_at hqn)
  cases eg
  rw [Nat.zero_add] at x0
  have k6 := hK.bx.get (i := 6) rfl
  have c1 := hb2.get (i := 0) rfl
  have c2 := hS.get (i := 0) rfl
  have c3 := hq2.get (i := 0) rfl
  have c4 := hr2.get (i := 0) rfl
  have CU : Hid (∀ X, Below W.heap.size W X → Calls Tryz.prog 70 #[.int .i64 s, ptr b] X fun e w' => e = .returned (.bool (partB T m s 4)) ∧ Below X.heap.size X w') := hide fun X hX => plusDefeasible2_any (hK.go hX) (hb2.keep (hX.block _ hb2.lt)) ⟨hx0, hx1⟩
  have HTS := hide (plusB_ts hK hb2 hS hu2)
  have C : Hid (∀ X, Below W.heap.size W X → Calls Tryz.prog 63 #[.slice la (rulesL T kT q).length lc, .func (.func 74) #[] #[ptr b, ptr w.heap.size, ptr bu]] X fun e w' => e = .returned (.bool ((rulesL T kT q).any (fun t => beatB T t s && wholeB T m t 3))) ∧ Below X.heap.size X w') := hide fun X hX => some_any (c := lc) (HTS.out.go hX) (hbody.at1.below hX) hbl (fun x hx => forL_in hx)
  have HB := hide hB
  have HT : S6 W ⟨br, 0, none⟩ ⟨w.heap.size, 0, none⟩ ⟨b, 0, none⟩ ⟨K, 6, none⟩ ⟨bq, 0, none⟩ ⟨A.s1, q, none⟩ (.func (.func 70) #[] #[ptr b]) (.int .i64 s) (ptr K) (.slice (some ⟨A.s1, 0, none⟩) n n) (.int .i64 q) (.slice la (rulesL T kT q).length lc) W := ⟨c4, c2, c1, k6, c3, x0, Below.refl _ _⟩
  clear hb2 hq2 hu2 hr2 hK hS hbody hB HTS
  generalize partB T m s 4 = o1 at *
  cases o1 with
  | true =>
    have HE : Hid (o = true) := hide (by rw [← HO.out]; rfl)
    clear C HO
    refine wp_region_held_drew (S := fun X : World => S6 W ⟨br, 0, none⟩ ⟨w.heap.size, 0, none⟩ ⟨b, 0, none⟩ ⟨K, 6, none⟩ ⟨bq, 0, none⟩ ⟨A.s1, q, none⟩ (.func (.func 70) #[] #[ptr b]) (.int .i64 s) (ptr K) (.slice (some ⟨A.s1, 0, none⟩) n n) (.int .i64 q) (.slice la (rulesL T kT q).length lc) X) (by kernel_rfl) (S6.drew HT) (fun hHeld => ?_)
    refine wpAnyH_take (i := 0) (v := ?_) rfl (by kernel_rfl) (by kernel_rfl) (by kernel_rfl) (fun _ _ _ h => h) (Or.inl ⟨by rfl, ?_⟩) (by assumption) ?_
    rotate_left
    · (intro w hSw; (try dsimp only at hSw); first | (go_simp; done) | (go_simp; with_reducible rfl))
    try simp only [List.getElem_toArray, List.getElem_cons_zero, Act.put, List.setIfInBounds_toArray, List.set_cons_zero, List.set_cons_succ]
    refine wpAnyH_take (i := 1) (v := ?_) rfl (by kernel_rfl) (by kernel_rfl) (by kernel_rfl) (fun _ _ _ h => h) (Or.inl ⟨by rfl, ?_⟩) (by assumption) ?_
    rotate_left
    · (intro w hSw; (try dsimp only at hSw); first | (go_simp; done) | (go_simp; with_reducible rfl))
    try simp only [List.getElem_toArray, List.getElem_cons_zero, List.getElem_cons_succ, Act.put, List.setIfInBounds_toArray, List.set_cons_zero, List.set_cons_succ]
    refine wpAnyH_ready (rs := [2]) (by kernel_rfl) (by simp) ?_
    refine AllReadyH.cons rfl (fun KK hKK => ?_) AllReadyH.nil
    go_simp
    go_at_call 70
    refine (CU.out _ (S6.b ‹_›)).mono ?_
    rintro e w' ⟨rfl, hb⟩
    dsimp only
    refine hKK.out _ _ (S6.below ‹_› hb) (fun hHeld2 => ?_)
    clear hKK KK hHeld
    try simp only [List.getElem_toArray, List.getElem_cons_zero, List.getElem_cons_succ, Act.put, List.setIfInBounds_toArray, List.set_cons_zero, List.set_cons_succ]
    refine wpAnyH_take (i := 3) (v := ?_) rfl (by kernel_rfl) (by kernel_rfl) (by kernel_rfl) (fun _ _ _ h => h) (Or.inl ⟨by rfl, ?_⟩) (by assumption) ?_
    rotate_left
    · (intro w hSw; (try dsimp only at hSw); first | (go_simp; done) | (go_simp; with_reducible rfl))
    try simp only [List.getElem_toArray, List.getElem_cons_zero, List.getElem_cons_succ, Act.put, List.setIfInBounds_toArray, List.set_cons_zero, List.set_cons_succ]
    refine wpAnyH_take (i := 4) (v := undef) rfl (by kernel_rfl) (by kernel_rfl) (by kernel_rfl) (fun _ _ _ h => h) (Or.inr ⟨by rfl, rfl⟩) (by assumption) ?_
    try simp only [List.getElem_toArray, List.getElem_cons_zero, List.getElem_cons_succ, Act.put, List.setIfInBounds_toArray, List.set_cons_zero, List.set_cons_succ]
    refine wpAnyH_take (i := 5) (v := undef) rfl (by kernel_rfl) (by kernel_rfl) (by kernel_rfl) (fun _ _ _ h => h) (Or.inr ⟨by rfl, rfl⟩) (by assumption) ?_
    try simp only [List.getElem_toArray, List.getElem_cons_zero, List.getElem_cons_succ, Act.put, List.setIfInBounds_toArray, List.set_cons_zero, List.set_cons_succ]
    refine wpAnyH_take (i := 6) (v := undef) rfl (by kernel_rfl) (by kernel_rfl) (by kernel_rfl) (fun _ _ _ h => h) (Or.inr ⟨by rfl, rfl⟩) (by assumption) ?_
    try simp only [List.getElem_toArray, List.getElem_cons_zero, List.getElem_cons_succ, Act.put, List.setIfInBounds_toArray, List.set_cons_zero, List.set_cons_succ]
    refine wpAnyH_take (i := 7) (v := undef) rfl (by kernel_rfl) (by kernel_rfl) (by kernel_rfl) (fun _ _ _ h => h) (Or.inr ⟨by rfl, rfl⟩) (by assumption) ?_
    try simp only [List.getElem_toArray, List.getElem_cons_zero, List.getElem_cons_succ, Act.put, List.setIfInBounds_toArray, List.set_cons_zero, List.set_cons_succ]
    refine wpAnyH_take (i := 8) (v := undef) rfl (by kernel_rfl) (by kernel_rfl) (by kernel_rfl) (fun _ _ _ h => h) (Or.inr ⟨by rfl, rfl⟩) (by assumption) ?_
    try simp only [List.getElem_toArray, List.getElem_cons_zero, List.getElem_cons_succ, Act.put, List.setIfInBounds_toArray, List.set_cons_zero, List.set_cons_succ]
    refine wpAnyH_take (i := 9) (v := undef) rfl (by kernel_rfl) (by kernel_rfl) (by kernel_rfl) (fun _ _ _ h => h) (Or.inr ⟨by rfl, rfl⟩) (by assumption) ?_
    try simp only [List.getElem_toArray, List.getElem_cons_zero, List.getElem_cons_succ, Act.put, List.setIfInBounds_toArray, List.set_cons_zero, List.set_cons_succ]
    refine wpAnyH_take (i := 10) (v := undef) rfl (by kernel_rfl) (by kernel_rfl) (by kernel_rfl) (fun _ _ _ h => h) (Or.inr ⟨by rfl, rfl⟩) (by assumption) ?_
    try simp only [List.getElem_toArray, List.getElem_cons_zero, List.getElem_cons_succ, Act.put, List.setIfInBounds_toArray, List.set_cons_zero, List.set_cons_succ]
    refine wpAnyH_take (i := 11) (v := undef) rfl (by kernel_rfl) (by kernel_rfl) (by kernel_rfl) (fun _ _ _ h => h) (Or.inr ⟨by rfl, rfl⟩) (by assumption) ?_
    try simp only [List.getElem_toArray, List.getElem_cons_zero, List.getElem_cons_succ, Act.put, List.setIfInBounds_toArray, List.set_cons_zero, List.set_cons_succ]
    refine wpAnyH_take (i := 12) (v := undef) rfl (by kernel_rfl) (by kernel_rfl) (by kernel_rfl) (fun _ _ _ h => h) (Or.inr ⟨by rfl, rfl⟩) (by assumption) ?_
    try simp only [List.getElem_toArray, List.getElem_cons_zero, List.getElem_cons_succ, Act.put, List.setIfInBounds_toArray, List.set_cons_zero, List.set_cons_succ]
    refine wpAnyH_take (i := 13) (v := ?_) rfl (by kernel_rfl) (by kernel_rfl) (by kernel_rfl) (fun _ _ _ h => h) (Or.inl ⟨by rfl, ?_⟩) (by assumption) ?_
    rotate_left
    · (intro w hSw; (try dsimp only at hSw); first | (go_simp; done) | (go_simp; with_reducible rfl))
    try simp only [List.getElem_toArray, List.getElem_cons_zero, List.getElem_cons_succ, Act.put, List.setIfInBounds_toArray, List.set_cons_zero, List.set_cons_succ]
    refine wpAnyH_take (i := 14) (v := ?_) rfl (by kernel_rfl) (by kernel_rfl) (by kernel_rfl) (fun _ _ _ h => h) (Or.inl ⟨by rfl, ?_⟩) (by assumption) ?_
    rotate_left
    · (intro w hSw; (try dsimp only at hSw); first | (go_simp; done) | (go_simp; with_reducible rfl))
    try simp only [List.getElem_toArray, List.getElem_cons_zero, List.getElem_cons_succ, Act.put, List.setIfInBounds_toArray, List.set_cons_zero, List.set_cons_succ]
    refine wpAnyH_done (by kernel_rfl) ?_ _
    go_wp2_with fail
    go_ret
    exact ⟨by rw [HE.out]; rfl, HB.out.trans ((S6.b hHeld2).mono HB.out.size)⟩
  | false =>
    have HE : Hid ((rulesL T kT q).any (fun t => beatB T t s && wholeB T m t 3) = o) := hide (by rw [← HO.out]; rfl)
    rw [HE.out] at C
    clear HO
    go_region_held3 (fun X : World => S6 W ⟨br, 0, none⟩ ⟨w.heap.size, 0, none⟩ ⟨b, 0, none⟩ ⟨K, 6, none⟩ ⟨bq, 0, none⟩ ⟨A.s1, q, none⟩ (.func (.func 70) #[] #[ptr b]) (.int .i64 s) (ptr K) (.slice (some ⟨A.s1, 0, none⟩) n n) (.int .i64 q) (.slice la (rulesL T kT q).length lc) X) (first | exact S6.drew ‹_› | assumption | exact S6.below ‹_› ‹_›) (first | (go_at_call 70; refine (CU.out _ (S6.b ‹_›)).mono ?_; rintro e w' ⟨rfl, hb⟩) | (go_at_call 63; refine (C.out _ (S6.b ‹_›)).mono ?_; rintro e w' ⟨rfl, hb⟩))
    rename_i hS4
    go_wp2_with fail
    go_ret
    exact ⟨by simp, HB.out.trans ((S6.b hS4).mono HB.out.size)⟩
theorem atkP_ts (h : Kn K A T F n m ma mc w) (hb : Bk b K w) (hq : Bi bq q w) (hqn : q < n) (hu : Bf bu (.func (.func 69) #[] #[ptr b]) w) (hr : Bf br (.func (.func 70) #[] #[ptr b]) w) : Ts w (fun x => atkP T m q x) (isRule T) (.func (.func 73) #[] #[ptr br, ptr b, ptr bq, ptr bu]) :=
  ⟨_, _, rfl, enters_go Tryz.func73 (by kernel_rfl) (by kernel_rfl), fun x w' hx hw => atkP_any (h.go hw) (hb.keep (hw.block _ hb.lt)) (hq.keep (hw.block _ hq.lt)) hqn (hu.keep (hw.block _ hu.lt)) (hr.keep (hw.block _ hr.lt)) hx⟩
set_option maxRecDepth 100000 in
set_option maxHeartbeats 6400000 in
theorem atkM_any {x : Int} (h : Kn K A T F n m ma mc w) (hb : Bk b K w) (hq : Bi bq q w) (hqn : q < n) (hu : Bf bu (.func (.func 76) #[] #[ptr b]) w) (hr : Bf br (.func (.func 77) #[] #[ptr b]) w) (hx : isRule T x) :
    Calls Tryz.prog 80 #[.int .i64 x, ptr bu, ptr b, ptr bq, ptr br] w fun e w' => e = .returned (.bool (atkM T m q x)) ∧ Below w.heap.size w w' := by
  obtain ⟨hx0, hx1⟩ := hx
  obtain ⟨s, rfl⟩ := Int.eq_ofNat_of_zero_le hx0
  have hB := below_new w (.cells #[.int .i64 s] 3)
  have hS : Bi w.heap.size s (w.alloc (.cells #[.int .i64 s] 3)) := heap_alloc_new w _
  have hK := h.go hB
  have hb2 := hb.keep (hB.block _ hb.lt)
  have hq2 := hq.keep (hB.block _ hq.lt)
  have hu2 := hu.keep (hB.block _ hu.lt)
  have hr2 := hr.keep (hB.block _ hr.lt)
  obtain ⟨o, ho⟩ : ∃ o, atkM T m q s = o := ⟨_, rfl⟩
  rw [ho]
  unfold atkM at ho
  have HO := hide ho
  clear h ho hb hq hu hr
  go_enter Tryz.func80, Tryz.ntmps80
  go_upto_region 1 with fail
  generalize w.alloc (.cells #[.int .i64 s] 3) = W at *
  obtain ⟨_, _, la, lc, eg, -, x0, -, hbl, hbody⟩ := at_L hK.l1 (grp_at hqn)
  cases eg
  rw [Nat.zero_add] at x0
  have k6 := hK.bx.get (i := 6) rfl
  have c1 := hb2.get (i := 0) rfl
  have c2 := hS.get (i := 0) rfl
  have c3 := hq2.get (i := 0) rfl
  have c4 := hu2.get (i := 0) rfl
  have CU : Hid (∀ X, Below W.heap.size W X → Calls Tryz.prog 76 #[.int .i64 s, ptr b] X fun e w' => e = .returned (.bool (wholeB T m s 3)) ∧ Below X.heap.size X w') := hide fun X hX => minusDefeasible1_any (hK.go hX) (hb2.keep (hX.block _ hb2.lt)) ⟨hx0, hx1⟩
  have HTS := hide (minusB_ts hK hb2 hS hr2)
  have C : Hid (∀ X, Below W.heap.size W X → Calls Tryz.prog 66 #[.slice la (rulesL T kT q).length lc, .func (.func 81) #[] #[ptr br, ptr b, ptr w.heap.size]] X fun e w' => e = .returned (.bool ((rulesL T kT q).all (fun t => partB T m t 4 || !beatB T t s))) ∧ Below X.heap.size X w') := hide fun X hX => every_any (c := lc) (HTS.out.go hX) (hbody.at1.below hX) hbl (fun x hx => forL_in hx)
  have HB := hide hB
  have HT : S6 W ⟨bu, 0, none⟩ ⟨w.heap.size, 0, none⟩ ⟨b, 0, none⟩ ⟨K, 6, none⟩ ⟨bq, 0, none⟩ ⟨A.s1, q, none⟩ (.func (.func 76) #[] #[ptr b]) (.int .i64 s) (ptr K) (.slice (some ⟨A.s1, 0, none⟩) n n) (.int .i64 q) (.slice la (rulesL T kT q).length lc) W := ⟨c4, c2, c1, k6, c3, x0, Below.refl _ _⟩
  clear hb2 hq2 hu2 hr2 hK hS hbody hB HTS
  generalize wholeB T m s 3 = o1 at *
  cases o1 with
  | false =>
    have HE : Hid (o = false) := hide (by rw [← HO.out]; rfl)
    clear C HO
    refine wp_region_held_drew (S := fun X : World => S6 W ⟨bu, 0, none⟩ ⟨w.heap.size, 0, none⟩ ⟨b, 0, none⟩ ⟨K, 6, none⟩ ⟨bq, 0, none⟩ ⟨A.s1, q, none⟩ (.func (.func 76) #[] #[ptr b]) (.int .i64 s) (ptr K) (.slice (some ⟨A.s1, 0, none⟩) n n) (.int .i64 q) (.slice la (rulesL T kT q).length lc) X) (by kernel_rfl) (S6.drew HT) (fun hHeld => ?_)
    refine wpAnyH_take (i := 0) (v := ?_) rfl (by kernel_rfl) (by kernel_rfl) (by kernel_rfl) (fun _ _ _ h => h) (Or.inl ⟨by rfl, ?_⟩) (by assumption) ?_
    rotate_left
    · (intro w hSw; (try dsimp only at hSw); first | (go_simp; done) | (go_simp; with_reducible rfl))
    try simp only [List.getElem_toArray, List.getElem_cons_zero, Act.put, List.setIfInBounds_toArray, List.set_cons_zero, List.set_cons_succ]
    refine wpAnyH_take (i := 1) (v := ?_) rfl (by kernel_rfl) (by kernel_rfl) (by kernel_rfl) (fun _ _ _ h => h) (Or.inl ⟨by rfl, ?_⟩) (by assumption) ?_
    rotate_left
    · (intro w hSw; (try dsimp only at hSw); first | (go_simp; done) | (go_simp; with_reducible rfl))
    try simp only [List.getElem_toArray, List.getElem_cons_zero, List.getElem_cons_succ, Act.put, List.setIfInBounds_toArray, List.set_cons_zero, List.set_cons_succ]
    refine wpAnyH_ready (rs := [2]) (by kernel_rfl) (by simp) ?_
    refine AllReadyH.cons rfl (fun KK hKK => ?_) AllReadyH.nil
    go_simp
    go_at_call 76
    refine (CU.out _ (S6.b ‹_›)).mono ?_
    rintro e w' ⟨rfl, hb⟩
    dsimp only
    refine hKK.out _ _ (S6.below ‹_› hb) (fun hHeld2 => ?_)
    clear hKK KK hHeld
    try simp only [List.getElem_toArray, List.getElem_cons_zero, List.getElem_cons_succ, Act.put, List.setIfInBounds_toArray, List.set_cons_zero, List.set_cons_succ]
    refine wpAnyH_take (i := 3) (v := ?_) rfl (by kernel_rfl) (by kernel_rfl) (by kernel_rfl) (fun _ _ _ h => h) (Or.inl ⟨by rfl, ?_⟩) (by assumption) ?_
    rotate_left
    · (intro w hSw; (try dsimp only at hSw); first | (go_simp; done) | (go_simp; with_reducible rfl))
    try simp only [List.getElem_toArray, List.getElem_cons_zero, List.getElem_cons_succ, Act.put, List.setIfInBounds_toArray, List.set_cons_zero, List.set_cons_succ]
    refine wpAnyH_take (i := 4) (v := undef) rfl (by kernel_rfl) (by kernel_rfl) (by kernel_rfl) (fun _ _ _ h => h) (Or.inr ⟨by rfl, rfl⟩) (by assumption) ?_
    try simp only [List.getElem_toArray, List.getElem_cons_zero, List.getElem_cons_succ, Act.put, List.setIfInBounds_toArray, List.set_cons_zero, List.set_cons_succ]
    refine wpAnyH_take (i := 5) (v := undef) rfl (by kernel_rfl) (by kernel_rfl) (by kernel_rfl) (fun _ _ _ h => h) (Or.inr ⟨by rfl, rfl⟩) (by assumption) ?_
    try simp only [List.getElem_toArray, List.getElem_cons_zero, List.getElem_cons_succ, Act.put, List.setIfInBounds_toArray, List.set_cons_zero, List.set_cons_succ]
    refine wpAnyH_take (i := 6) (v := undef) rfl (by kernel_rfl) (by kernel_rfl) (by kernel_rfl) (fun _ _ _ h => h) (Or.inr ⟨by rfl, rfl⟩) (by assumption) ?_
    try simp only [List.getElem_toArray, List.getElem_cons_zero, List.getElem_cons_succ, Act.put, List.setIfInBounds_toArray, List.set_cons_zero, List.set_cons_succ]
    refine wpAnyH_take (i := 7) (v := undef) rfl (by kernel_rfl) (by kernel_rfl) (by kernel_rfl) (fun _ _ _ h => h) (Or.inr ⟨by rfl, rfl⟩) (by assumption) ?_
    try simp only [List.getElem_toArray, List.getElem_cons_zero, List.getElem_cons_succ, Act.put, List.setIfInBounds_toArray, List.set_cons_zero, List.set_cons_succ]
    refine wpAnyH_take (i := 8) (v := undef) rfl (by kernel_rfl) (by kernel_rfl) (by kernel_rfl) (fun _ _ _ h => h) (Or.inr ⟨by rfl, rfl⟩) (by assumption) ?_
    try simp only [List.getElem_toArray, List.getElem_cons_zero, List.getElem_cons_succ, Act.put, List.setIfInBounds_toArray, List.set_cons_zero, List.set_cons_succ]
    refine wpAnyH_take (i := 9) (v := undef) rfl (by kernel_rfl) (by kernel_rfl) (by kernel_rfl) (fun _ _ _ h => h) (Or.inr ⟨by rfl, rfl⟩) (by assumption) ?_
    try simp only [List.getElem_toArray, List.getElem_cons_zero, List.getElem_cons_succ, Act.put, List.setIfInBounds_toArray, List.set_cons_zero, List.set_cons_succ]
    refine wpAnyH_take (i := 10) (v := undef) rfl (by kernel_rfl) (by kernel_rfl) (by kernel_rfl) (fun _ _ _ h => h) (Or.inr ⟨by rfl, rfl⟩) (by assumption) ?_
    try simp only [List.getElem_toArray, List.getElem_cons_zero, List.getElem_cons_succ, Act.put, List.setIfInBounds_toArray, List.set_cons_zero, List.set_cons_succ]
    refine wpAnyH_take (i := 11) (v := undef) rfl (by kernel_rfl) (by kernel_rfl) (by kernel_rfl) (fun _ _ _ h => h) (Or.inr ⟨by rfl, rfl⟩) (by assumption) ?_
    try simp only [List.getElem_toArray, List.getElem_cons_zero, List.getElem_cons_succ, Act.put, List.setIfInBounds_toArray, List.set_cons_zero, List.set_cons_succ]
    refine wpAnyH_take (i := 12) (v := undef) rfl (by kernel_rfl) (by kernel_rfl) (by kernel_rfl) (fun _ _ _ h => h) (Or.inr ⟨by rfl, rfl⟩) (by assumption) ?_
    try simp only [List.getElem_toArray, List.getElem_cons_zero, List.getElem_cons_succ, Act.put, List.setIfInBounds_toArray, List.set_cons_zero, List.set_cons_succ]
    refine wpAnyH_take (i := 13) (v := ?_) rfl (by kernel_rfl) (by kernel_rfl) (by kernel_rfl) (fun _ _ _ h => h) (Or.inl ⟨by rfl, ?_⟩) (by assumption) ?_
    rotate_left
    · (intro w hSw; (try dsimp only at hSw); first | (go_simp; done) | (go_simp; with_reducible rfl))
    try simp only [List.getElem_toArray, List.getElem_cons_zero, List.getElem_cons_succ, Act.put, List.setIfInBounds_toArray, List.set_cons_zero, List.set_cons_succ]
    refine wpAnyH_take (i := 14) (v := ?_) rfl (by kernel_rfl) (by kernel_rfl) (by kernel_rfl) (fun _ _ _ h => h) (Or.inl ⟨by rfl, ?_⟩) (by assumption) ?_
    rotate_left
    · (intro w hSw; (try dsimp only at hSw); first | (go_simp; done) | (go_simp; with_reducible rfl))
    try simp only [List.getElem_toArray, List.getElem_cons_zero, List.getElem_cons_succ, Act.put, List.setIfInBounds_toArray, List.set_cons_zero, List.set_cons_succ]
    refine wpAnyH_done (by kernel_rfl) ?_ _
    go_wp2_with fail
    go_ret
    exact ⟨by rw [HE.out]; rfl, HB.out.trans ((S6.b hHeld2).mono HB.out.size)⟩
  | true =>
    have HE : Hid ((rulesL T kT q).all (fun t => partB T m t 4 || !beatB T t s) = o) := hide (by rw [← HO.out]; rfl)
    rw [HE.out] at C
    clear HO
    go_region_held3 (fun X : World => S6 W ⟨bu, 0, none⟩ ⟨w.heap.size, 0, none⟩ ⟨b, 0, none⟩ ⟨K, 6, none⟩ ⟨bq, 0, none⟩ ⟨A.s1, q, none⟩ (.func (.func 76) #[] #[ptr b]) (.int .i64 s) (ptr K) (.slice (some ⟨A.s1, 0, none⟩) n n) (.int .i64 q) (.slice la (rulesL T kT q).length lc) X) (first | exact S6.drew ‹_› | assumption | exact S6.below ‹_› ‹_›) (first | (go_at_call 76; refine (CU.out _ (S6.b ‹_›)).mono ?_; rintro e w' ⟨rfl, hb⟩) | (go_at_call 66; refine (C.out _ (S6.b ‹_›)).mono ?_; rintro e w' ⟨rfl, hb⟩))
    rename_i hS4
    go_wp2_with fail
    go_ret
    exact ⟨by simp, HB.out.trans ((S6.b hS4).mono HB.out.size)⟩
theorem atkM_ts (h : Kn K A T F n m ma mc w) (hb : Bk b K w) (hq : Bi bq q w) (hqn : q < n) (hu : Bf bu (.func (.func 76) #[] #[ptr b]) w) (hr : Bf br (.func (.func 77) #[] #[ptr b]) w) : Ts w (fun x => atkM T m q x) (isRule T) (.func (.func 80) #[] #[ptr bu, ptr b, ptr bq, ptr br]) :=
  ⟨_, _, rfl, enters_go Tryz.func80 (by kernel_rfl) (by kernel_rfl), fun x w' hx hw => atkM_any (h.go hw) (hb.keep (hw.block _ hb.lt)) (hq.keep (hw.block _ hq.lt)) hqn (hu.keep (hw.block _ hu.lt)) (hr.keep (hw.block _ hr.lt)) hx⟩
end
end Go.Proofs.YtddlhlifkhaokaaGreat
