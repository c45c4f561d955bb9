/- The reader: rules, beats. -/
import Derived.Test.YtdmnoeooljofcaaRdg
namespace Go.Proofs.Ytdmnoeooljofcaa
open Go.RowKit

theorem num_in {zs : List Int} {least below other : Int} {p q : Nat} {z : Int} (h : numM zs least below other p = .ok (z, q)) : least ≤ z ∧ z < below := by
  unfold numM at h
  split at h
  · cases h
  · split at h
    · cases h
    · simp only [Except.ok.injEq, Prod.mk.injEq] at h; omega
theorem one_rule {zs : List Int} {lits : Int} {k : Nat} {l : List RuleM} {q : Nat} : rulesM zs lits (k + 1) l q = (numM zs 1 4 122 q >>= fun a => (numM zs 0 lits 122 a.2 >>= fun h => (listM zs 16 0 lits 122 h.2 >>= fun b => rulesM zs lits k (l ++ [⟨a.1, h.1, b.1⟩]) b.2))) := by
  rw [rulesM, oneRuleM]
  simp only [bind_assoc]
  rfl
set_option maxRecDepth 100000 in
set_option maxHeartbeats 12800000 in
theorem rules_any {R : Nat} {ba : Option Addr} {bc : Nat} {zs : List Int} {p : Nat} {w : World} (h : Rd R ba bc zs p w) {lits : Int} (l0 : 0 ≤ lits) (l1 : lits ≤ 4096) :
    Calls Try.prog 41 #[ptr R, .int .i64 lits] w fun e w' => Eo R ba bc zs w (fun w' F v => F.length ≤ 4096 ∧ vRs w.heap.size w' F v) (allRulesM zs lits p) e w' := by
  obtain ⟨iR, hiR, zR0, zR1, zR2⟩ := info_parts infoR
  have CC := hide (count_any h (most := 4096) (by omega) (by omega))
  obtain ⟨o, ho⟩ : ∃ o, allRulesM zs lits p = o := ⟨_, rfl⟩
  rw [ho]
  have HO := hide ho
  have hR := h.lt
  clear h ho
  go_enter Try.func41, Try.ntmps41
  go_wp2_with fail
  refine CC.out.mono ?_
  intro e w1 hE
  rcases hE.split with ⟨z, q0, v, e1, rfl, e2, e3, e4⟩ | ⟨c, p', e1, rfl, e4⟩
  rotate_left
  · exact on_panic rfl (Eo.no (bind_no HO.out e1) e4)
  rw [vZ] at e2
  subst e2
  obtain ⟨hz0, hz1⟩ := num_in e1
  obtain ⟨N, rfl⟩ := Int.eq_ofNat_of_zero_le hz0
  have HO2 : Hid (rulesM zs lits (N - 0) [] q0 = o) := hide (by have := bind_ok HO.out e1; simpa using this)
  have HD := hide e3
  have HF : Hid (Fr (Zr R w) w w1) := hide (fr_of_r (Fr.refl _ _) e4)
  have hN : N ≤ 4096 := by omega
  clear hE e1 e3 e4 HO CC hz0 hz1
  go_wp2_with fail
  go_loopw [5, 11] (fun y x wr => ∃ (k : Nat) (l : List RuleM) (a : Option Addr) (c q : Nat), k ≤ N ∧ x = .int .i64 k ∧ y = .slice a k c ∧ Hid (Gy 70 3 cRZ w.heap.size l k (.slice a k c) wr) ∧ Hid (Rd R ba bc zs q wr) ∧ Hid (Fr (Zr R w) w wr) ∧ Hid (rulesM zs lits (N - k) l q = o)) (fun _ x _ => N - (intOf x).toNat)
  case atStart => exact ⟨0, [], none, 0, q0, by omega, rfl, rfl, hide Gy.nil, HD, HF, HO2⟩
  case round =>
    clear HD HF HO2
    obtain ⟨k, l, a, c, q, hk, rfl, rfl, HGy, HD, HF, HK⟩ := hrel
    have hwr : w.heap.size ≤ wr.heap.size := HF.out.size
    by_cases hlt : k < N
    · have HS := hide HK.out
      rw [show N - k = (N - (k + 1)) + 1 by omega, one_rule] at HS
      have CN := hide (number_any HD.out (least := 1) (below := 4) (other := 122) (by omega) (by omega) (by omega) (by omega))
      clear HK
      go_wp2_with fail
      refine CN.out.mono ?_
      intro e w2 hE
      rcases hE.split with ⟨kd, q2, v, e1, rfl, e2, e3, e4⟩ | ⟨c2, p2, e1, rfl, e4⟩
      rotate_left
      · exact ⟨rfl, Eo.no (bind_no HS.out e1) (fr_r (fr_of_r HF.out e4))⟩
      rw [vZ] at e2
      subst e2
      have HS2 := hide (bind_ok HS.out e1)
      have HD2 := hide e3
      have HE2 := hide e4
      have CN := hide (number_any HD2.out (least := 0) (below := lits) (other := 122) (by omega) (by omega) (by omega) (by omega))
      clear hE e1 e3 e4 HS HD
      go_wp2_with fail
      refine CN.out.mono ?_
      intro e w3 hE
      rcases hE.split with ⟨hd, q3, v, e1, rfl, e2, e3, e4⟩ | ⟨c2, p2, e1, rfl, e4⟩
      rotate_left
      · exact ⟨rfl, Eo.no (bind_no HS2.out e1) (fr_r (fr_of_r HF.out (HE2.out.trans e4)))⟩
      rw [vZ] at e2
      subst e2
      have HS3 := hide (bind_ok HS2.out e1)
      have HD3 := hide e3
      have HE3 := hide (HE2.out.trans e4)
      have hw3 : wr.heap.size ≤ w3.heap.size := HE3.out.size
      have CL := hide (list_any HD3.out (most := 16) (least := 0) (below := lits) (other := 122) (by omega) (by omega) (by omega) (by omega) (by omega) (by omega))
      clear hE e1 e3 e4 HS2 HD2 HE2 CN
      go_wp2_with fail
      refine CL.out.mono ?_
      intro e w4 hE
      rcases hE.split with ⟨b, q4, v, e1, rfl, e2, e3, e4⟩ | ⟨c2, p2, e1, rfl, e4⟩
      rotate_left
      · exact ⟨rfl, Eo.no (bind_no HS3.out e1) (fr_r (fr_of_r HF.out (HE3.out.trans e4)))⟩
      obtain ⟨la, lc, rfl⟩ := owns_slice e2
      have hbl : b.length ≤ 4096 := by
        unfold listM at e1
        obtain ⟨x, h1, h2⟩ := bind_iff.1 e1
        have := nums_len h2
        have := num_in h1
        simp at *
        omega
      have HS4 := hide (bind_ok HS3.out e1)
      have HD4 := hide e3
      have HE4 := hide (HE3.out.trans e4)
      have hw4 : w3.heap.size ≤ w4.heap.size := e4.size
      have HNew : Hid (cRZ (Nw wr w4) w4 ⟨kd, hd, b⟩ [.int .i64 kd, .int .i64 hd, .slice la b.length lc]) := hide ⟨_, rfl, rz_ints e2 (fun g hg => ⟨by have := (e2.lt g hg).1; omega, (e2.lt g hg).2⟩) (by simp only; omega)⟩
      obtain ⟨hlen, Z, xs, hrow, hz, hold⟩ := HGy.out
      have hrow4 := owns_keep hrow fun g hg => HE4.out.block g (hrow.lt g hg).2 (by have := (hrow.lt g hg).1; omega)
      have hA := below_new w4 (.cells #[.int .i64 kd, .int .i64 hd, .slice la b.length lc] 70)
      have HROW := hide (owns_keep hrow4 fun g hg => hA.block g (owns_lt hrow4 hg))
      have HLen := hide hlen
      have HRw := hide hrow
      have HZ := hide hz
      have HOld := hide hold
      clear hE e1 e2 e3 e4 HS3 HD3 HE3 CL hrow4 hA hlen hrow hz hold HGy
      go_upto_region 8 with (at_builtin; go_must (refine wpList_append_two _ rfl _ _ 25 rfl w.heap.size 70 iR _ 3 40 Try.underlying25 hiR zR0 zR1 zR2 rfl (by decide) _ _ xs rfl HROW.out ⟨w4.heap.size, 0, none⟩ 1 [.int .i64 kd, .int .i64 hd, .slice la b.length lc] rfl rfl (news_at (cs := [.int .i64 kd, .int .i64 hd, .slice la b.length lc]) rfl) (by intro u hu; simp at hu; rcases hu with rfl | rfl | rfl <;> rfl) (by unfold maxLen; omega) (by omega) (by simp; omega) ?_); intro g5 cap5 w5 hown5 hg5)
      have hg6 : (Value.ownBlock (.slice a k c) = some g5 ∧ (w4.alloc (.cells #[.int .i64 kd, .int .i64 hd, .slice la b.length lc] 70)).grownBy w5 (some g5)) ∨ (g5 = w4.heap.size + 1 ∧ (w4.alloc (.cells #[.int .i64 kd, .int .i64 hd, .slice la b.length lc] 70)).grownBy w5 none) := by
        rcases hg5 with h | ⟨h1, h2⟩
        · exact .inl h
        · exact .inr ⟨by simpa using h1, h2⟩
      have HGy5 := hide (Gy.grow (c := cRZ) (fun _ _ _ _ _ _ => cRZ.keep) hR hwr HLen.out HRw.out HZ.out HOld.out HE4.out HNew.out rfl hown5 hg6)
      have HF5 := hide (fr_grown (fr_of_r HF.out HE4.out) hg6 fun g e => (HRw.out.lt g e).1)
      have HD5 := hide (HD4.out.keep fun j hj => grown_old rfl hg6 (by omega) fun e => by have := (HRw.out.lt j e).1; omega)
      clear hown5 hg5 hg6
      go_wp2_with fail
      go_roundw
      case rel => exact ⟨k + 1, l ++ [⟨kd, hd, b⟩], some ⟨g5, 0, none⟩, cap5, q4, by omega, by go_num, rfl, HGy5, HD5, HF5, HS4⟩
      case measure => simp [intOf]; omega
    · have HN : Hid (o = .ok (l, q)) := hide (by have := HK.out; rw [show N - k = 0 by omega] at this; exact this.symm)
      clear HK
      go_wp2_with fail
      go_ret
      exact Eo.yes HN.out ⟨by rw [HGy.out.len]; omega, HGy.out.done (fun _ _ _ _ _ _ => cRZ.keep) (by rw [HGy.out.len]; omega)⟩ HD.out (fr_r HF.out)
set_option maxRecDepth 100000 in
set_option maxHeartbeats 12800000 in
theorem beats_any {R : Nat} {ba : Option Addr} {bc : Nat} {zs : List Int} {p : Nat} {w : World} (h : Rd R ba bc zs p w) {N : Nat} (hN : N ≤ 4096) :
    Calls Try.prog 42 #[ptr R, .int .i64 N] w fun e w' => Eo R ba bc zs w (vLs w.heap.size) (beatsM zs N N [] p) e w' := by
  obtain ⟨iL, hiL, zL0, zL1, zL2⟩ := info_parts infoL
  obtain ⟨o, ho⟩ : ∃ o, beatsM zs N N [] p = o := ⟨_, rfl⟩
  rw [ho]
  have HO : Hid (beatsM zs N (N - 0) [] p = o) := hide ho
  have hR := h.lt
  have HD0 := hide h
  clear h ho
  go_enter Try.func42, Try.ntmps42
  go_wp2_with fail
  go_loopw [5, 7] (fun y x wr => ∃ (k : Nat) (l : List (List Int)) (a : Option Addr) (c q : Nat), k ≤ N ∧ x = .int .i64 k ∧ y = .slice a k c ∧ Hid (Gy 38 1 cLZ w.heap.size l k (.slice a k c) wr) ∧ Hid (Rd R ba bc zs q wr) ∧ Hid (Fr (Zr R w) w wr) ∧ Hid (beatsM zs N (N - k) l q = o)) (fun _ x _ => N - (intOf x).toNat)
  case atStart => exact ⟨0, [], none, 0, p, by omega, rfl, rfl, hide Gy.nil, HD0, hide (Fr.refl _ _), HO⟩
  case round =>
    clear HD0 HO
    obtain ⟨k, l, a, c, q, hk, rfl, rfl, HGy, HD, HF, HK⟩ := hrel
    have hwr : w.heap.size ≤ wr.heap.size := HF.out.size
    by_cases hlt : k < N
    · have HS := hide HK.out
      rw [show N - k = (N - (k + 1)) + 1 by omega, beatsM] at HS
      have CL := hide (list_any HD.out (most := 4096) (least := 0) (below := N) (other := 123) (by omega) (by omega) (by omega) (by omega) (by omega) (by omega))
      clear HK
      go_wp2_with fail
      refine CL.out.mono ?_
      intro e w4 hE
      rcases hE.split with ⟨b, q4, v, e1, rfl, e2, e3, e4⟩ | ⟨c2, p2, e1, rfl, e4⟩
      rotate_left
      · exact ⟨rfl, Eo.no (bind_no HS.out e1) (fr_r (fr_of_r HF.out e4))⟩
      obtain ⟨la, lc, rfl⟩ := owns_slice e2
      have hbl : b.length ≤ 4096 := by
        unfold listM at e1
        obtain ⟨x, h1, h2⟩ := bind_iff.1 e1
        have := nums_len h2
        have := num_in h1
        simp at *
        omega
      have HS4 := hide (bind_ok HS.out e1)
      have HD4 := hide e3
      have HE4 := hide e4
      have hw4 : wr.heap.size ≤ w4.heap.size := e4.size
      have HNew : Hid (cLZ (Nw wr w4) w4 b [.slice la b.length lc]) := hide ⟨_, rfl, rz_ints e2 (fun g hg => e2.lt g hg) (by omega)⟩
      obtain ⟨hlen, Z, xs, hrow, hz, hold⟩ := HGy.out
      have hrow4 := owns_keep hrow fun g hg => HE4.out.block g (hrow.lt g hg).2 (by have := (hrow.lt g hg).1; omega)
      have hA := below_new w4 (.cells #[.slice la b.length lc] 38)
      have HROW := hide (owns_keep hrow4 fun g hg => hA.block g (owns_lt hrow4 hg))
      have HLen := hide hlen
      have HRw := hide hrow
      have HZ := hide hz
      have HOld := hide hold
      clear hE e1 e2 e3 e4 HS CL hrow4 hA hlen hrow hz hold HGy
      go_upto_region 5 with (at_builtin; go_must (refine wpList_append_two _ rfl _ _ 24 rfl w.heap.size 38 iL _ 1 24 Try.underlying24 hiL zL0 zL1 zL2 rfl (by decide) _ _ xs rfl HROW.out ⟨w4.heap.size, 0, none⟩ 1 [.slice la b.length lc] rfl rfl (cell_one_new _ _ _) (by intro u hu; simp at hu; subst hu; rfl) (by unfold maxLen; omega) (by omega) (by simp; omega) ?_); intro g5 cap5 w5 hown5 hg5)
      have hg6 : (Value.ownBlock (.slice a k c) = some g5 ∧ (w4.alloc (.cells #[.slice la b.length lc] 38)).grownBy w5 (some g5)) ∨ (g5 = w4.heap.size + 1 ∧ (w4.alloc (.cells #[.slice la b.length lc] 38)).grownBy w5 none) := by
        rcases hg5 with h | ⟨h1, h2⟩
        · exact .inl h
        · exact .inr ⟨by simpa using h1, h2⟩
      have HGy5 := hide (Gy.grow (c := cLZ) (fun _ _ _ _ _ _ => cLZ.keep) hR hwr HLen.out HRw.out HZ.out HOld.out HE4.out HNew.out rfl hown5 hg6)
      have HF5 := hide (fr_grown (fr_of_r HF.out HE4.out) hg6 fun g e => (HRw.out.lt g e).1)
      have HD5 := hide (HD4.out.keep fun j hj => grown_old rfl hg6 (by omega) fun e => by have := (HRw.out.lt j e).1; omega)
      clear hown5 hg5 hg6
      go_wp2_with fail
      go_roundw
      case rel => exact ⟨k + 1, l ++ [b], some ⟨g5, 0, none⟩, cap5, q4, by omega, by go_num, rfl, HGy5, HD5, HF5, HS4⟩
      case measure => simp [intOf]; omega
    · have HN : Hid (o = .ok (l, q)) := hide (by have := HK.out; rw [show N - k = 0 by omega] at this; exact this.symm)
      clear HK
      go_wp2_with fail
      go_ret
      exact Eo.yes HN.out (HGy.out.done (fun _ _ _ _ _ _ => cLZ.keep) (by rw [HGy.out.len]; omega)) HD.out (fr_r HF.out)
end Go.Proofs.Ytdmnoeooljofcaa
