/- Leaves: called, what may be awarded, days, sides. -/
import Derived.Test.YtfnobccminhjpabGreatSmall8
namespace Go.Proofs.YtfnobccminhjpabGreat
open Go.RowKit Go.Shelf Go.Maps Go.WideMaps

section
variable {R : Nat} {it : Int} {w : World}
set_option maxRecDepth 100000 in
set_option maxHeartbeats 1600000 in
theorem called_any (h : w.cell? ⟨R, 9, none⟩ = some (.int .i64 it)) {b : Nat} {l : List Bytes} (hm : KMap 9 w b l) (s : Bytes) (hs : s.length ≤ maxLen) (k : Nat) :
    Calls Tryz.prog 128 #[ptr R, str s, .map (some b), .int .i64 k] w fun e w' => Qd w it vU (calledM l s k) e w' := by
  have CW := hide (fun b c => want_any h b c)
  have CN := hide (isName_any ⟨s.toArray⟩ w)
  obtain ⟨n, D, hown, hN, _⟩ := hm
  have HN := hide (hN s)
  obtain ⟨o, ho⟩ : ∃ o, calledM l s k = o := ⟨_, rfl⟩
  rw [ho]
  have HO := hide ho
  unfold calledM at HO
  have HK := hide (key_mk hs)
  unfold str
  clear hN h ho
  go_enter Tryz.func128, Tryz.ntmps128
  go_wp2_with (go_at_call 138; refine CN.out.mono ?_; rintro _ w1 ⟨rfl, hw1⟩; subst w1)
  refine (CW.out _ _).mono ?_
  intro e w1 hE
  rcases hE.split with ⟨_, h1, rfl, hw⟩ | ⟨c1, h1, rfl, hw⟩
  · subst w1
    have H2 := hide (ex_go HO.out h1)
    clear HO h1 hE
    go_wp2_with (at_lookup; go_must (refine wpList_lookup_own_int _ rfl _ _ 103 rfl 9 3 .i64 law Tryz.underlying103 Tryz.underlying3 (Tryz.zeroValue3 _) b n _ rfl hown _ _ rfl HK.out ?_); intro cc hat hwc)
    have hc : cc = posB l s := by
      have := hat.symm.trans HN.out.2
      injection this with e
      injection e
    subst hc
    clear hat hwc HN
    go_wp2_with fail
    refine (CW.out _ _).mono ?_
    intro e w1 hE
    rcases hE.split with ⟨_, h1, rfl, hw⟩ | ⟨c1, h1, rfl, hw⟩
    · subst w1
      go_wp2_with fail
      go_end0
      exact Qd.ok (h1.symm.trans H2.out)
    · subst w1
      exact on_panic rfl (Qd.bad (h1.symm.trans H2.out))
  · subst w1
    exact on_panic rfl (Qd.bad (ex_no HO.out h1))
end

set_option maxHeartbeats 1600000 in
theorem may_any (v : Int) (w : World) : Calls Tryz.prog 134 #[.int .i64 v] w fun e w' => e = .returned (.int .i64 (if mayB v then 0 else 22)) ∧ w' = w := by
  unfold mayB
  go_enter Tryz.func134, Tryz.ntmps134
  go_wp2
  all_goals go_ret
  all_goals refine ⟨ret_int ?_, rfl⟩
  all_goals simp_all
  all_goals omega
set_option maxHeartbeats 1600000 in
theorem award_any (v : Int) (w : World) : Calls Tryz.prog 129 #[.int .i64 v] w fun e w' => e = .returned (.bool (awardB v)) ∧ w' = w := by
  have C := hide (may_any v w)
  unfold awardB
  cases hb : mayB v with
  | true =>
    rw [hb] at C
    go_enter Tryz.func129, Tryz.ntmps129
    go_wp2_with (go_at_call 134; refine C.out.mono ?_; rintro _ w1 ⟨rfl, hw1⟩; subst w1)
    go_ret
    exact ⟨ret_bool (by simp), rfl⟩
  | false =>
    rw [hb] at C
    go_enter Tryz.func129, Tryz.ntmps129
    go_wp2_with (go_at_call 134; refine C.out.mono ?_; rintro _ w1 ⟨rfl, hw1⟩; subst w1)
    go_ret
    exact ⟨ret_bool (by simp), rfl⟩
set_option maxHeartbeats 1600000 in
theorem cday_any (v : Int) (w : World) : Calls Tryz.prog 144 #[.int .i64 v] w fun e w' => e = .returned (.bool (dayB v)) ∧ w' = w := by
  unfold dayB
  by_cases h1 : 1 ≤ v
  · go_enter Tryz.func144, Tryz.ntmps144
    go_wp2
    go_ret
    exact ⟨ret_bool (by simp [h1]), rfl⟩
  · go_enter Tryz.func144, Tryz.ntmps144
    go_wp2
    go_ret
    exact ⟨ret_bool (by simp; omega), rfl⟩
set_option maxHeartbeats 1600000 in
theorem week_any (v : Int) (w : World) : Calls Tryz.prog 139 #[.int .i64 v] w fun e w' => ∃ d, e = .returned (.tuple #[.int .i64 d, .int .i64 (if dayB v then 0 else 31)]) ∧ w' = w := by
  have C := hide (cday_any v w)
  cases hb : dayB v with
  | true =>
    rw [hb] at C
    have h1 : 1 ≤ v := by unfold dayB at hb; simp at hb; omega
    have h2 : v ≤ 3652059 := by unfold dayB at hb; simp at hb; omega
    clear hb
    go_enter Tryz.func139, Tryz.ntmps139
    go_wp2_with (go_at_call 144; refine C.out.mono ?_; rintro _ w1 ⟨rfl, hw1⟩; subst w1)
    go_ret2
    first | rfl | simp
  | false =>
    rw [hb] at C
    clear hb
    go_enter Tryz.func139, Tryz.ntmps139
    go_wp2_with (go_at_call 144; refine C.out.mono ?_; rintro _ w1 ⟨rfl, hw1⟩; subst w1)
    go_ret2
    first | rfl | simp
set_option maxHeartbeats 1600000 in
theorem day_any (v : Int) (w : World) : Calls Tryz.prog 131 #[.int .i64 v] w fun e w' => e = .returned (.bool (dayB v)) ∧ w' = w := by
  have C := hide (week_any v w)
  cases hb : dayB v with
  | true =>
    rw [hb] at C
    clear hb
    go_enter Tryz.func131, Tryz.ntmps131
    go_wp2_with (go_at_call 139; refine C.out.mono ?_; rintro _ w1 ⟨d, rfl, hw1⟩; subst w1)
    go_ret
    exact ⟨rfl, rfl⟩
  | false =>
    rw [hb] at C
    clear hb
    go_enter Tryz.func131, Tryz.ntmps131
    go_wp2_with (go_at_call 139; refine C.out.mono ?_; rintro _ w1 ⟨d, rfl, hw1⟩; subst w1)
    go_ret
    exact ⟨rfl, rfl⟩
set_option maxHeartbeats 1600000 in
theorem side_any (a : Option Addr) (l : List TermM) (c : Nat) (w : World) (hl : l.length ≤ 140737488351232) : Calls Tryz.prog 120 #[.slice a l.length c] w fun e w' => e = .returned (.bool (sideB l)) ∧ w' = w := by
  unfold sideB
  generalize l.length = n at *
  by_cases h1 : 1 ≤ n
  · go_enter Tryz.func120, Tryz.ntmps120
    go_wp2
    go_ret
    exact ⟨ret_bool (by rw [decide_eq_true h1, Bool.true_and]; first | rfl | (congr 1; simp; done) | (congr 1; exact propext (by omega))), rfl⟩
  · go_enter Tryz.func120, Tryz.ntmps120
    go_wp2
    go_ret
    exact ⟨ret_bool (by simp; try omega), rfl⟩
end Go.Proofs.YtfnobccminhjpabGreat
