import Derived.Test.YtmlhcncagdfjfaaGreatFlf
set_option maxRecDepth 100000
set_option maxHeartbeats 3200000
namespace Go.Proofs.YtmlhcncagdfjfaaGreat.De
open Go.RowKit Fa
theorem sO {w : World} {a b : Option Addr} {l m : List (Int × Int)} {c d : Nat} (ha : Chs w a l) (hb : Chs w b m) (hl : l.length ≤ 140737488351232) :
    Calls Tryz.prog 49 #[.slice a l.length c, .slice b m.length d] w fun e w' => e = .returned (.bool (decide (l = m))) ∧ ∃ q, w' = w.drewN q := by
 have HA := hide ha
 have HB := hide hb
 clear ha hb
 by_cases he : l.length = m.length
 · have HE := hide he
   rw [← he]
   clear he
   go_enter Tryz.func49, Tryz.ntmps49
   go_wp2_with fail
   go_loopw [13] (fun x wr => ∃ k : Nat, k ≤ l.length ∧ x = .int .i64 k ∧ Hid (l.take k = m.take k) ∧ Hid (∃ q, wr = w.drewN q)) (fun x _ => l.length - (intOf x).toNat)
   case atStart => exact ⟨0, by omega, rfl, hide (by simp), hide ⟨0, rfl⟩⟩
   case round =>
    obtain ⟨k, hk, rfl, HK, HW⟩ := hrel
    by_cases hlt : k < l.length
    · obtain ⟨⟨x1, x2⟩, hx⟩ := am hlt
      obtain ⟨⟨y1, y2⟩, hy⟩ := am (l := m) (i := k) (by rw [← HE.out]; exact hlt)
      obtain ⟨g, o, rfl, j0, j1⟩ := HA.out k _ hx
      obtain ⟨g2, o2, rfl, i0, i1⟩ := HB.out k _ hy
      have Af : wr.cell? ⟨g, o + k * 2, none⟩ = some (.int .i64 x1) := by obtain ⟨q, rfl⟩ := HW.out; exact j0
      have Ad : wr.cell? ⟨g, o + k * 2 + 1, none⟩ = some (.int .i64 x2) := by obtain ⟨q, rfl⟩ := HW.out; exact j1
      have Ag : wr.cell? ⟨g2, o2 + k * 2, none⟩ = some (.int .i64 y1) := by obtain ⟨q, rfl⟩ := HW.out; exact i0
      have Ae : wr.cell? ⟨g2, o2 + k * 2 + 1, none⟩ = some (.int .i64 y2) := by obtain ⟨q, rfl⟩ := HW.out; exact i1
      have HT := hide (bj hx)
      have Ac := hide (bj hy)
      have Aa : Hid (¬ (x1 = y1 ∧ x2 = y2) → ¬ l = m) := hide (fun h e => h (by subst e; rw [hx] at hy; simpa using hy))
      clear j0 j1 i0 i1 hx hy
      by_cases hs : x1 = y1
      · subst hs
        by_cases hs2 : x2 = y2
        · subst hs2
          go_wp2_with fail
          go_quiet (fail)
          go_wp2_with fail
          go_roundw
          case rel => exact ⟨k + 1, by omega, by go_num, hide (by rw [HT.out, Ac.out, HK.out]), hide (by obtain ⟨q, rfl⟩ := HW.out; exact ⟨_, World.drewN_drewN _ _ _⟩)⟩
          case measure => simp [intOf]; omega
        · have HF := hide (Aa.out fun h => hs2 h.2)
          have Ab : (x2 == y2) = false := beq_eq_false_iff_ne.2 hs2
          clear Aa
          go_wp2_with fail
          go_quiet (fail)
          go_wp2_with fail
          go_ret
          exact ⟨ret_bool (by rw [decide_eq_false HF.out]), by obtain ⟨q, rfl⟩ := HW.out; exact ⟨_, World.drewN_drewN _ _ _⟩⟩
      · have HF := hide (Aa.out fun h => hs h.1)
        have Ab : (x1 == y1) = false := beq_eq_false_iff_ne.2 hs
        clear Aa
        go_wp2_with fail
        go_quiet (fail)
        go_wp2_with fail
        go_ret
        exact ⟨ret_bool (by rw [decide_eq_false HF.out]), by obtain ⟨q, rfl⟩ := HW.out; exact ⟨_, World.drewN_drewN _ _ _⟩⟩
    · have HF : Hid (l = m) := by
       have := HK.out
       rw [List.take_of_length_le (by omega), List.take_of_length_le (by have := HE.out; omega)] at this
       exact this
      go_wp2_with fail
      go_ret
      exact ⟨ret_bool (by rw [decide_eq_true HF.out]), HW.out⟩
 · have HF : Hid (¬ l = m) := hide (fun e => he (by rw [e]))
   generalize l.length = x at *
   generalize m.length = y at *
   have Ab : ¬ ((x : Int) = y) := by omega
   go_enter Tryz.func49, Tryz.ntmps49
   go_wp2_with fail
   go_ret
   exact ⟨ret_bool (by rw [decide_eq_false HF.out]), 0, rfl⟩
end Go.Proofs.YtmlhcncagdfjfaaGreat.De
