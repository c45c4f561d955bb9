import Derived.Test.YtmlhcncagdfjfaaGreatDrX
set_option maxRecDepth 100000
set_option maxHeartbeats 6400000
namespace Go.Proofs.YtmlhcncagdfjfaaGreat.De
open Go.RowKit Fa
theorem sU {w : World} {a b : Option Addr} {l m : List (Int × Int)} {c d : Nat} (ha : Chs w a l) (hb : Chs w b m) (hl : l.length ≤ 140737488351232) :
    Calls Tryz.prog 52 #[.slice a l.length c, .slice b m.length d] w fun e w' => e = .returned (.bool (decide (l = m))) ∧ ∃ q, w' = w.drewN q := by
 have HA := hide ha
 have HB := hide hb
 clear ha hb
 by_cases he : l.length = m.length
 · have HE := hide he
   rw [← he]
   clear he
   go_enter Tryz.func52, Tryz.ntmps52
   go_wp2_with fail
   go_loopw [5] (fun x wr => ∃ k : Nat, k ≤ l.length ∧ x = .int .i64 k ∧ Hid (l.take k = m.take k) ∧ Hid (∃ q, wr = w.drewN q)) (fun x _ => l.length - (intOf x).toNat)
   case atStart => exact ⟨0, by omega, rfl, hide (by simp), hide ⟨0, rfl⟩⟩
   case round =>
    obtain ⟨k, hk, rfl, HK, HW⟩ := hrel
    by_cases hlt : k < l.length
    · obtain ⟨⟨x1, x2⟩, hx⟩ := am hlt
      obtain ⟨⟨y1, y2⟩, hy⟩ := am (l := m) (i := k) (by rw [← HE.out]; exact hlt)
      obtain ⟨g, o, rfl, j0, j1⟩ := HA.out k _ hx
      obtain ⟨g2, o2, rfl, i0, i1⟩ := HB.out k _ hy
      have Af : wr.cell? ⟨g, o + k * 2, none⟩ = some (.int .i64 x1) := by obtain ⟨q, rfl⟩ := HW.out; exact j0
      have Ad : wr.cell? ⟨g, o + k * 2 + 1, none⟩ = some (.int .i64 x2) := by obtain ⟨q, rfl⟩ := HW.out; exact j1
      have Ag : wr.cell? ⟨g2, o2 + k * 2, none⟩ = some (.int .i64 y1) := by obtain ⟨q, rfl⟩ := HW.out; exact i0
      have Ae : wr.cell? ⟨g2, o2 + k * 2 + 1, none⟩ = some (.int .i64 y2) := by obtain ⟨q, rfl⟩ := HW.out; exact i1
      have HT := hide (bj hx)
      have Ac := hide (bj hy)
      have Aa : Hid (¬ (x1 = y1 ∧ x2 = y2) → ¬ l = m) := hide (fun h e => h (by subst e; rw [hx] at hy; simpa using hy))
      clear j0 j1 i0 i1 hx hy
      by_cases hs : x1 = y1
      · subst hs
        by_cases hs2 : x2 = y2
        · subst hs2
          go_wp2_with fail
          go_quiet (fail)
          go_wp2_with fail
          go_roundw
          case rel => exact ⟨k + 1, by omega, by go_num, hide (by rw [HT.out, Ac.out, HK.out]), hide (by obtain ⟨q, rfl⟩ := HW.out; exact ⟨_, World.drewN_drewN _ _ _⟩)⟩
          case measure => simp [intOf]; omega
        · have HF := hide (Aa.out fun h => hs2 h.2)
          have Ab : (x2 == y2) = false := beq_eq_false_iff_ne.2 hs2
          clear Aa
          go_wp2_with fail
          go_quiet (fail)
          go_wp2_with fail
          go_ret
          exact ⟨ret_bool (by rw [decide_eq_false HF.out]), by obtain ⟨q, rfl⟩ := HW.out; exact ⟨_, World.drewN_drewN _ _ _⟩⟩
      · have HF := hide (Aa.out fun h => hs h.1)
        have Ab : (x1 == y1) = false := beq_eq_false_iff_ne.2 hs
        clear Aa
        go_wp2_with fail
        go_quiet (fail)
        go_wp2_with fail
        go_ret
        exact ⟨ret_bool (by rw [decide_eq_false HF.out]), by obtain ⟨q, rfl⟩ := HW.out; exact ⟨_, World.drewN_drewN _ _ _⟩⟩
    · have HF : Hid (l = m) := by
       have := HK.out
       rw [List.take_of_length_le (by omega), List.take_of_length_le (by have := HE.out; omega)] at this
       exact this
      go_wp2_with fail
      go_ret
      exact ⟨ret_bool (by rw [decide_eq_true HF.out]), HW.out⟩
 · have HF : Hid (¬ l = m) := hide (fun e => he (by rw [e]))
   generalize l.length = x at *
   generalize m.length = y at *
   have Ab : ¬ ((x : Int) = y) := by omega
   go_enter Tryz.func52, Tryz.ntmps52
   go_wp2_with fail
   go_ret
   exact ⟨ret_bool (by rw [decide_eq_false HF.out]), 0, rfl⟩
theorem vo {w : World} {t q h r t2 q2 h2 r2 : Int} {ch dh : List (Int × Int)} {ca cb : Option Addr} {cc cd : Nat} (ha : Chs w ca ch) (hb : Chs w cb dh) (hl : ch.length ≤ 140737488351232) :
    Calls Tryz.prog 17 #[fR ⟨t, q, h, r, ch⟩ ca cc, fR ⟨t2, q2, h2, r2, dh⟩ cb cd] w fun e w' => e = .returned (.bool (decide ((⟨t, q, h, r, ch⟩ : StM) = ⟨t2, q2, h2, r2, dh⟩))) ∧ Below w.heap.size w w' := by
 have Ac := ac w (.cells #[.int .i64 t, .int .i64 q, .int .i64 h, .int .i64 r, .slice ca ch.length cc] 32)
 have Aa := ac (w.alloc (.cells #[.int .i64 t, .int .i64 q, .int .i64 h, .int .i64 r, .slice ca ch.length cc] 32)) (.cells #[.int .i64 t2, .int .i64 q2, .int .i64 h2, .int .i64 r2, .slice cb dh.length cd] 32)
 have hB := Ac.trans (Aa.mono Ac.size)
 have hx : Fx w.heap.size 32 [.int .i64 t, .int .i64 q, .int .i64 h, .int .i64 r, .slice ca ch.length cc] ((w.alloc (.cells #[.int .i64 t, .int .i64 q, .int .i64 h, .int .i64 r, .slice ca ch.length cc] 32)).alloc (.cells #[.int .i64 t2, .int .i64 q2, .int .i64 h2, .int .i64 r2, .slice cb dh.length cd] 32)) := (Aa.block _ (by simp)).trans (heap_alloc_new w (.cells #[.int .i64 t, .int .i64 q, .int .i64 h, .int .i64 r, .slice ca ch.length cc] 32))
 have hy : Fx (w.heap.size + 1) 32 [.int .i64 t2, .int .i64 q2, .int .i64 h2, .int .i64 r2, .slice cb dh.length cd] ((w.alloc (.cells #[.int .i64 t, .int .i64 q, .int .i64 h, .int .i64 r, .slice ca ch.length cc] 32)).alloc (.cells #[.int .i64 t2, .int .i64 q2, .int .i64 h2, .int .i64 r2, .slice cb dh.length cd] 32)) := by
  have := heap_alloc_new (w.alloc (.cells #[.int .i64 t, .int .i64 q, .int .i64 h, .int .i64 r, .slice ca ch.length cc] 32)) (.cells #[.int .i64 t2, .int .i64 q2, .int .i64 h2, .int .i64 r2, .slice cb dh.length cd] 32)
  simpa [Fx] using this
 have HA := hide (Chs.go ha hB)
 have Ae := hide (Chs.go hb hB)
 have HB := hide hB
 have x0 := hx.get (i := 0) rfl
 have x1 := hx.get (i := 1) rfl
 have x2 := hx.get (i := 2) rfl
 have x3 := hx.get (i := 3) rfl
 have x4 := hx.get (i := 4) rfl
 have y0 := hy.get (i := 0) rfl
 have y1 := hy.get (i := 1) rfl
 have y2 := hy.get (i := 2) rfl
 have y3 := hy.get (i := 3) rfl
 have y4 := hy.get (i := 4) rfl
 clear ha hb Ac Aa hB hx hy
 show Calls Tryz.prog 17 #[.agg #[.int .i64 t, .int .i64 q, .int .i64 h, .int .i64 r, .slice ca ch.length cc], .agg #[.int .i64 t2, .int .i64 q2, .int .i64 h2, .int .i64 r2, .slice cb dh.length cd]] w _
 have CE := hide (sO (c := cc) (d := cd) HA.out Ae.out hl)
 have Ad : Hid (decide ((⟨t, q, h, r, ch⟩ : StM) = ⟨t2, q2, h2, r2, dh⟩) = (decide (t = t2) && decide (q = q2) && decide (h = h2) && decide (r = r2) && decide (ch = dh))) := hide (by simp [StM.mk.injEq, Bool.and_assoc])
 rw [Ad.out]
 clear Ad
 generalize decide (ch = dh) = eb at *
 go_enter Tryz.func17, Tryz.ntmps17
 go_upto_region 1 with fail
 generalize ((w.alloc (.cells #[.int .i64 t, .int .i64 q, .int .i64 h, .int .i64 r, .slice ca ch.length cc] 32)).alloc (.cells #[.int .i64 t2, .int .i64 q2, .int .i64 h2, .int .i64 r2, .slice cb dh.length cd] 32)) = W at *
 by_cases e0 : t = t2
 · subst e0
   by_cases e1 : q = q2
   · subst e1
     by_cases e2 : h = h2
     · subst e2
       by_cases e3 : r = r2
       · subst e3
         go_wp2_with (go_at_call 49; refine CE.out.mono ?_; rintro _ w3 ⟨rfl, n3, rfl⟩)
         go_ret
         exact ⟨ret_bool (by simp), HB.out.trans ((ah W n3).mono HB.out.size)⟩
       · have Ab : (r == r2) = false := beq_eq_false_iff_ne.2 e3
         go_wp2_with fail
         go_ret
         exact ⟨ret_bool (by simp), HB.out⟩
     · have Ab : (h == h2) = false := beq_eq_false_iff_ne.2 e2
       go_wp2_with fail
       go_ret
       exact ⟨ret_bool (by simp), HB.out⟩
   · have Ab : (q == q2) = false := beq_eq_false_iff_ne.2 e1
     go_wp2_with fail
     go_ret
     exact ⟨ret_bool (by simp), HB.out⟩
 · have Ab : (t == t2) = false := beq_eq_false_iff_ne.2 e0
   go_wp2_with fail
   go_ret
   exact ⟨ret_bool (by simp [e0]), HB.out⟩
theorem pQ {w : World} {t q h r t2 q2 h2 r2 : Int} {ch dh : List (Int × Int)} {ca cb : Option Addr} {cc cd : Nat} (ha : Chs w ca ch) (hb : Chs w cb dh) (hl : ch.length ≤ 140737488351232) :
    Calls Tryz.prog 21 #[fR ⟨t, q, h, r, ch⟩ ca cc, fR ⟨t2, q2, h2, r2, dh⟩ cb cd] w fun e w' => e = .returned (.bool (decide ((⟨t, q, h, r, ch⟩ : StM) = ⟨t2, q2, h2, r2, dh⟩))) ∧ Below w.heap.size w w' := by
 have Ac := ac w (.cells #[.int .i64 t, .int .i64 q, .int .i64 h, .int .i64 r, .slice ca ch.length cc] 32)
 have Aa := ac (w.alloc (.cells #[.int .i64 t, .int .i64 q, .int .i64 h, .int .i64 r, .slice ca ch.length cc] 32)) (.cells #[.int .i64 t2, .int .i64 q2, .int .i64 h2, .int .i64 r2, .slice cb dh.length cd] 32)
 have hB := Ac.trans (Aa.mono Ac.size)
 have hx : Fx w.heap.size 32 [.int .i64 t, .int .i64 q, .int .i64 h, .int .i64 r, .slice ca ch.length cc] ((w.alloc (.cells #[.int .i64 t, .int .i64 q, .int .i64 h, .int .i64 r, .slice ca ch.length cc] 32)).alloc (.cells #[.int .i64 t2, .int .i64 q2, .int .i64 h2, .int .i64 r2, .slice cb dh.length cd] 32)) := (Aa.block _ (by simp)).trans (heap_alloc_new w (.cells #[.int .i64 t, .int .i64 q, .int .i64 h, .int .i64 r, .slice ca ch.length cc] 32))
 have hy : Fx (w.heap.size + 1) 32 [.int .i64 t2, .int .i64 q2, .int .i64 h2, .int .i64 r2, .slice cb dh.length cd] ((w.alloc (.cells #[.int .i64 t, .int .i64 q, .int .i64 h, .int .i64 r, .slice ca ch.length cc] 32)).alloc (.cells #[.int .i64 t2, .int .i64 q2, .int .i64 h2, .int .i64 r2, .slice cb dh.length cd] 32)) := by
  have := heap_alloc_new (w.alloc (.cells #[.int .i64 t, .int .i64 q, .int .i64 h, .int .i64 r, .slice ca ch.length cc] 32)) (.cells #[.int .i64 t2, .int .i64 q2, .int .i64 h2, .int .i64 r2, .slice cb dh.length cd] 32)
  simpa [Fx] using this
 have HA := hide (Chs.go ha hB)
 have Ae := hide (Chs.go hb hB)
 have HB := hide hB
 have x0 := hx.get (i := 0) rfl
 have x1 := hx.get (i := 1) rfl
 have x2 := hx.get (i := 2) rfl
 have x3 := hx.get (i := 3) rfl
 have x4 := hx.get (i := 4) rfl
 have y0 := hy.get (i := 0) rfl
 have y1 := hy.get (i := 1) rfl
 have y2 := hy.get (i := 2) rfl
 have y3 := hy.get (i := 3) rfl
 have y4 := hy.get (i := 4) rfl
 clear ha hb Ac Aa hB hx hy
 show Calls Tryz.prog 21 #[.agg #[.int .i64 t, .int .i64 q, .int .i64 h, .int .i64 r, .slice ca ch.length cc], .agg #[.int .i64 t2, .int .i64 q2, .int .i64 h2, .int .i64 r2, .slice cb dh.length cd]] w _
 have CE := hide (sU (c := cc) (d := cd) HA.out Ae.out hl)
 have Ad : Hid (decide ((⟨t, q, h, r, ch⟩ : StM) = ⟨t2, q2, h2, r2, dh⟩) = (decide (t = t2) && decide (q = q2) && decide (h = h2) && decide (r = r2) && decide (ch = dh))) := hide (by simp [StM.mk.injEq, Bool.and_assoc])
 rw [Ad.out]
 clear Ad
 generalize decide (ch = dh) = eb at *
 go_enter Tryz.func21, Tryz.ntmps21
 go_upto_region 1 with fail
 generalize ((w.alloc (.cells #[.int .i64 t, .int .i64 q, .int .i64 h, .int .i64 r, .slice ca ch.length cc] 32)).alloc (.cells #[.int .i64 t2, .int .i64 q2, .int .i64 h2, .int .i64 r2, .slice cb dh.length cd] 32)) = W at *
 by_cases e0 : t = t2
 · subst e0
   by_cases e1 : q = q2
   · subst e1
     by_cases e2 : h = h2
     · subst e2
       by_cases e3 : r = r2
       · subst e3
         go_wp2_with (go_at_call 52; refine CE.out.mono ?_; rintro _ w3 ⟨rfl, n3, rfl⟩)
         go_ret
         exact ⟨ret_bool (by simp), HB.out.trans ((ah W n3).mono HB.out.size)⟩
       · have Ab : (r == r2) = false := beq_eq_false_iff_ne.2 e3
         go_wp2_with fail
         go_ret
         exact ⟨ret_bool (by simp), HB.out⟩
     · have Ab : (h == h2) = false := beq_eq_false_iff_ne.2 e2
       go_wp2_with fail
       go_ret
       exact ⟨ret_bool (by simp), HB.out⟩
   · have Ab : (q == q2) = false := beq_eq_false_iff_ne.2 e1
     go_wp2_with fail
     go_ret
     exact ⟨ret_bool (by simp), HB.out⟩
 · have Ab : (t == t2) = false := beq_eq_false_iff_ne.2 e0
   go_wp2_with fail
   go_ret
   exact ⟨ret_bool (by simp [e0]), HB.out⟩
end Go.Proofs.YtmlhcncagdfjfaaGreat.De
