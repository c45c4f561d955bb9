/- Lists of things, with one thing more. By program. -/
import Derived.Test.YthnjmfkiohgkkaaGreatDoorAdds
import Derived.Test.YthnjmfkiohgkkaaGreatDoorRead4
namespace Go.Proofs.YthnjmfkiohgkkaaGreatDoor.Sy
open Go.RowKit

theorem info_string : (Tryz.prog.info? 9).map (fun i => (i.zero, i.size, i.bytes)) = some (some (.string ⟨#[]⟩), 1, 16) := by kernel_rfl
theorem info_money : (Tryz.prog.info? 93).map (fun i => (i.zero, i.size, i.bytes)) = some (some (.int .i64 0), 1, 8) := by kernel_rfl
theorem info_term : (Tryz.prog.info? 109).map (fun i => (i.zero, i.size, i.bytes)) = some (some (.agg #[.int .i64 0, .string ⟨#[]⟩, .slice none 0 0, .int .i64 0]), 4, 56) := by kernel_rfl

theorem info_prem : (Tryz.prog.info? 107).map (fun i => (i.zero, i.size, i.bytes)) = some (some (.agg #[.int .i64 0, .bool false, .string ⟨#[]⟩, .slice none 0 0, .bool false, .int .i64 0, .slice none 0 0, .int .i64 0, .slice none 0 0, .string ⟨#[]⟩, .string ⟨#[]⟩]), 11, 160) := by kernel_rfl

section
variable (R : Nat) (L : List Tok) (N : Nat) (s : RS) (st : St9) (w : World)

set_option maxRecDepth 100000 in
set_option maxHeartbeats 1600000 in
theorem add_string_name (readM : M Bytes) (CR : ∀ s w, Rd R L N s st w → Calls Tryz.prog 72 #[.pointer (some ⟨R, 0, none⟩)] w (Ends R L N st w repS (readM s)))
    (Z : Nat → Prop) (l : List Bytes) (tv : Value) (most : Int) (hl : l.length ≤ 70000) (hT : Rows Z 9 1 cS w l tv) (hz : ∀ g, w.heap.size ≤ g → Z g) (hzR : ∀ g, Z g → R < g)
    (h : Rd R L N s st w) (o : Out Bytes) (ho : addM l.length most readM s = o) :
    Calls Tryz.prog 71 #[.pointer (some ⟨R, 0, none⟩), tv, .int .i64 most, .func (.func 72) #[.pointer (some ⟨R, 0, none⟩)] #[]] w
      (EndsA R L N st w tv.ownBlock (fun w' a v => Rows Z 9 1 cS w' (l ++ [a]) v) o) := by
  obtain ⟨iM, hiM, zM0, zM1, zM2⟩ := info_parts' info_string
  have HO := hide (set_go ho)
  have H := hide h
  obtain ⟨xs, hrow, hold⟩ := hT
  have HROW := hide hrow
  have HOLD := hide hold
  have HZ := hide hz
  have HZR := hide hzR
  have CR := hide CR
  obtain ⟨ta, tc, rfl⟩ := slice_form hrow.1
  have c3 := h.c3
  have f3 := h.frz 3
  have hlt := h.lt
  clear h ho hrow hold hz hzR
  generalize hfl : (s.full || decide (most ≤ (l.length : Int))) = fl at HO
  have HS := hide (H.out.setFull fl)
  cases hsf : s.full with
  | true =>
    rw [hsf] at c3
    have hb : true = fl := by rw [hsf] at hfl; simpa using hfl
    subst hb
    clear hsf hfl
    go_enter Tryz.func71, Tryz.ntmps71
    go_wp2_with fail
    refine (CR.out _ _ HS.out).mono ?_
    intro e w2 he
    rcases he.split with ⟨a, t, v, ho, rfl, hv, hR, hF⟩ | ⟨c, m, ho, rfl, hF⟩
    rotate_left 1
    · exact on_panic rfl (.of_bad (ho.symm.trans HO.out) (((Fq.refl R w).set 3 _).trans hF))
    have HO := hide (ho.symm.trans HO.out)
    have HR := hide hR
    have HF := hide (((Fq.refl R w).set 3 _).trans hF)
    have HZ2 : Hid (∀ g, w2.heap.size ≤ g → Z g) := hide fun g hg => HZ.out g (Nat.le_trans HF.out.size hg)
    have HROW2 := hide (HROW.out.keep (Kp.of_fq (T := [9]) HF.out H.out (by decide)) (by decide))
    have HC : Hid (∀ w w' b ys, Kp [] Z w w' → cS w b ys → cS w' b ys) := hide (fun _ _ _ _ _ h => h)
    have HOLD2 : Hid (∀ i b, l[i]? = some b → cS w2 b ((xs.drop (i * 1)).take 1)) := hide fun i b hi => HC.out _ _ _ _ (Kp.of_fq HF.out H.out (by decide)) (HOLD.out i b hi)
    cases hv
    clear he ho hR hF CR HS HROW HOLD H
    go_wp2_with (at_builtin; go_must (refine wpList_append_two _ rfl _ _ 22 rfl 0 9 iM _ 1 16 Tryz.underlying22 hiM zM0 zM1 zM2 rfl (by decide) _ _ _ rfl (HROW2.out.1.alloc _) ⟨w2.heap.size, 0, none⟩ 1 [.string ⟨a.toArray⟩] rfl rfl (news_at rfl) (by simp [Value.oneCell']) (by unfold maxLen; omega) (by omega) (Nat.zero_le _) ?_))
    intro g cap w4 hown hg
    obtain ⟨p1, p2, p3⟩ := put_behind (a := a) HR.out rfl HROW2.out HOLD2.out (rfl) rfl HZ2.out HC.out (by decide) HZR.out hown hg
    have P1 := hide p1
    have P2 := hide p2
    have P3 := hide ((HF.out.fg _).trans p3)
    clear p1 p2 p3 hown hg HROW2 HOLD2 HR HF
    go_wp2_with fail
    go_ret
    exact .of_ok HO.out P1.out P2.out P3.out
  | false =>
    rw [hsf] at c3
    have hb : (decide (most ≤ (l.length : Int))) = fl := by rw [hsf] at hfl; simpa using hfl
    clear hsf hfl
    go_enter Tryz.func71, Tryz.ntmps71
    go_wp2_with fail
    refine (CR.out _ _ HS.out).mono ?_
    intro e w2 he
    rcases he.split with ⟨a, t, v, ho, rfl, hv, hR, hF⟩ | ⟨c, m, ho, rfl, hF⟩
    rotate_left 1
    · exact on_panic rfl (.of_bad (ho.symm.trans HO.out) (((Fq.refl R w).set 3 _).trans hF))
    have HO := hide (ho.symm.trans HO.out)
    have HR := hide hR
    have HF := hide (((Fq.refl R w).set 3 _).trans hF)
    have HZ2 : Hid (∀ g, w2.heap.size ≤ g → Z g) := hide fun g hg => HZ.out g (Nat.le_trans HF.out.size hg)
    have HROW2 := hide (HROW.out.keep (Kp.of_fq (T := [9]) HF.out H.out (by decide)) (by decide))
    have HC : Hid (∀ w w' b ys, Kp [] Z w w' → cS w b ys → cS w' b ys) := hide (fun _ _ _ _ _ h => h)
    have HOLD2 : Hid (∀ i b, l[i]? = some b → cS w2 b ((xs.drop (i * 1)).take 1)) := hide fun i b hi => HC.out _ _ _ _ (Kp.of_fq HF.out H.out (by decide)) (HOLD.out i b hi)
    cases hv
    clear he ho hR hF CR HS HROW HOLD H
    go_wp2_with (at_builtin; go_must (refine wpList_append_two _ rfl _ _ 22 rfl 0 9 iM _ 1 16 Tryz.underlying22 hiM zM0 zM1 zM2 rfl (by decide) _ _ _ rfl (HROW2.out.1.alloc _) ⟨w2.heap.size, 0, none⟩ 1 [.string ⟨a.toArray⟩] rfl rfl (news_at rfl) (by simp [Value.oneCell']) (by unfold maxLen; omega) (by omega) (Nat.zero_le _) ?_))
    intro g cap w4 hown hg
    obtain ⟨p1, p2, p3⟩ := put_behind (a := a) HR.out rfl HROW2.out HOLD2.out (rfl) rfl HZ2.out HC.out (by decide) HZR.out hown hg
    have P1 := hide p1
    have P2 := hide p2
    have P3 := hide ((HF.out.fg _).trans p3)
    clear p1 p2 p3 hown hg HROW2 HOLD2 HR HF
    go_wp2_with fail
    go_ret
    exact .of_ok HO.out P1.out P2.out P3.out

set_option maxRecDepth 100000 in
set_option maxHeartbeats 1600000 in
theorem add_string_arg (readM : M Bytes) (CR : ∀ s w, Rd R L N s st w → Calls Tryz.prog 159 #[.pointer (some ⟨R, 0, none⟩)] w (Ends R L N st w repS (readM s)))
    (Z : Nat → Prop) (l : List Bytes) (tv : Value) (most : Int) (hl : l.length ≤ 70000) (hT : Rows Z 9 1 cS w l tv) (hz : ∀ g, w.heap.size ≤ g → Z g) (hzR : ∀ g, Z g → R < g)
    (h : Rd R L N s st w) (o : Out Bytes) (ho : addM l.length most readM s = o) :
    Calls Tryz.prog 71 #[.pointer (some ⟨R, 0, none⟩), tv, .int .i64 most, .func (.func 159) #[.pointer (some ⟨R, 0, none⟩)] #[]] w
      (EndsA R L N st w tv.ownBlock (fun w' a v => Rows Z 9 1 cS w' (l ++ [a]) v) o) := by
  obtain ⟨iM, hiM, zM0, zM1, zM2⟩ := info_parts' info_string
  have HO := hide (set_go ho)
  have H := hide h
  obtain ⟨xs, hrow, hold⟩ := hT
  have HROW := hide hrow
  have HOLD := hide hold
  have HZ := hide hz
  have HZR := hide hzR
  have CR := hide CR
  obtain ⟨ta, tc, rfl⟩ := slice_form hrow.1
  have c3 := h.c3
  have f3 := h.frz 3
  have hlt := h.lt
  clear h ho hrow hold hz hzR
  generalize hfl : (s.full || decide (most ≤ (l.length : Int))) = fl at HO
  have HS := hide (H.out.setFull fl)
  cases hsf : s.full with
  | true =>
    rw [hsf] at c3
    have hb : true = fl := by rw [hsf] at hfl; simpa using hfl
    subst hb
    clear hsf hfl
    go_enter Tryz.func71, Tryz.ntmps71
    go_wp2_with fail
    refine (CR.out _ _ HS.out).mono ?_
    intro e w2 he
    rcases he.split with ⟨a, t, v, ho, rfl, hv, hR, hF⟩ | ⟨c, m, ho, rfl, hF⟩
    rotate_left 1
    · exact on_panic rfl (.of_bad (ho.symm.trans HO.out) (((Fq.refl R w).set 3 _).trans hF))
    have HO := hide (ho.symm.trans HO.out)
    have HR := hide hR
    have HF := hide (((Fq.refl R w).set 3 _).trans hF)
    have HZ2 : Hid (∀ g, w2.heap.size ≤ g → Z g) := hide fun g hg => HZ.out g (Nat.le_trans HF.out.size hg)
    have HROW2 := hide (HROW.out.keep (Kp.of_fq (T := [9]) HF.out H.out (by decide)) (by decide))
    have HC : Hid (∀ w w' b ys, Kp [] Z w w' → cS w b ys → cS w' b ys) := hide (fun _ _ _ _ _ h => h)
    have HOLD2 : Hid (∀ i b, l[i]? = some b → cS w2 b ((xs.drop (i * 1)).take 1)) := hide fun i b hi => HC.out _ _ _ _ (Kp.of_fq HF.out H.out (by decide)) (HOLD.out i b hi)
    cases hv
    clear he ho hR hF CR HS HROW HOLD H
    go_wp2_with (at_builtin; go_must (refine wpList_append_two _ rfl _ _ 22 rfl 0 9 iM _ 1 16 Tryz.underlying22 hiM zM0 zM1 zM2 rfl (by decide) _ _ _ rfl (HROW2.out.1.alloc _) ⟨w2.heap.size, 0, none⟩ 1 [.string ⟨a.toArray⟩] rfl rfl (news_at rfl) (by simp [Value.oneCell']) (by unfold maxLen; omega) (by omega) (Nat.zero_le _) ?_))
    intro g cap w4 hown hg
    obtain ⟨p1, p2, p3⟩ := put_behind (a := a) HR.out rfl HROW2.out HOLD2.out (rfl) rfl HZ2.out HC.out (by decide) HZR.out hown hg
    have P1 := hide p1
    have P2 := hide p2
    have P3 := hide ((HF.out.fg _).trans p3)
    clear p1 p2 p3 hown hg HROW2 HOLD2 HR HF
    go_wp2_with fail
    go_ret
    exact .of_ok HO.out P1.out P2.out P3.out
  | false =>
    rw [hsf] at c3
    have hb : (decide (most ≤ (l.length : Int))) = fl := by rw [hsf] at hfl; simpa using hfl
    clear hsf hfl
    go_enter Tryz.func71, Tryz.ntmps71
    go_wp2_with fail
    refine (CR.out _ _ HS.out).mono ?_
    intro e w2 he
    rcases he.split with ⟨a, t, v, ho, rfl, hv, hR, hF⟩ | ⟨c, m, ho, rfl, hF⟩
    rotate_left 1
    · exact on_panic rfl (.of_bad (ho.symm.trans HO.out) (((Fq.refl R w).set 3 _).trans hF))
    have HO := hide (ho.symm.trans HO.out)
    have HR := hide hR
    have HF := hide (((Fq.refl R w).set 3 _).trans hF)
    have HZ2 : Hid (∀ g, w2.heap.size ≤ g → Z g) := hide fun g hg => HZ.out g (Nat.le_trans HF.out.size hg)
    have HROW2 := hide (HROW.out.keep (Kp.of_fq (T := [9]) HF.out H.out (by decide)) (by decide))
    have HC : Hid (∀ w w' b ys, Kp [] Z w w' → cS w b ys → cS w' b ys) := hide (fun _ _ _ _ _ h => h)
    have HOLD2 : Hid (∀ i b, l[i]? = some b → cS w2 b ((xs.drop (i * 1)).take 1)) := hide fun i b hi => HC.out _ _ _ _ (Kp.of_fq HF.out H.out (by decide)) (HOLD.out i b hi)
    cases hv
    clear he ho hR hF CR HS HROW HOLD H
    go_wp2_with (at_builtin; go_must (refine wpList_append_two _ rfl _ _ 22 rfl 0 9 iM _ 1 16 Tryz.underlying22 hiM zM0 zM1 zM2 rfl (by decide) _ _ _ rfl (HROW2.out.1.alloc _) ⟨w2.heap.size, 0, none⟩ 1 [.string ⟨a.toArray⟩] rfl rfl (news_at rfl) (by simp [Value.oneCell']) (by unfold maxLen; omega) (by omega) (Nat.zero_le _) ?_))
    intro g cap w4 hown hg
    obtain ⟨p1, p2, p3⟩ := put_behind (a := a) HR.out rfl HROW2.out HOLD2.out (rfl) rfl HZ2.out HC.out (by decide) HZR.out hown hg
    have P1 := hide p1
    have P2 := hide p2
    have P3 := hide ((HF.out.fg _).trans p3)
    clear p1 p2 p3 hown hg HROW2 HOLD2 HR HF
    go_wp2_with fail
    go_ret
    exact .of_ok HO.out P1.out P2.out P3.out

set_option maxRecDepth 100000 in
set_option maxHeartbeats 1600000 in
theorem add_money_money (readM : M Int) (CR : ∀ s w, Rd R L N s st w → Calls Tryz.prog 126 #[.pointer (some ⟨R, 0, none⟩)] w (Ends R L N st w repI (readM s)))
    (Z : Nat → Prop) (l : List Int) (tv : Value) (most : Int) (hl : l.length ≤ 70000) (hT : Rows Z 93 1 cI w l tv) (hz : ∀ g, w.heap.size ≤ g → Z g) (hzR : ∀ g, Z g → R < g)
    (h : Rd R L N s st w) (o : Out Int) (ho : addM l.length most readM s = o) :
    Calls Tryz.prog 151 #[.pointer (some ⟨R, 0, none⟩), tv, .int .i64 most, .func (.func 126) #[.pointer (some ⟨R, 0, none⟩)] #[]] w
      (EndsA R L N st w tv.ownBlock (fun w' a v => Rows Z 93 1 cI w' (l ++ [a]) v) o) := by
  obtain ⟨iM, hiM, zM0, zM1, zM2⟩ := info_parts' info_money
  have HO := hide (set_go ho)
  have H := hide h
  obtain ⟨xs, hrow, hold⟩ := hT
  have HROW := hide hrow
  have HOLD := hide hold
  have HZ := hide hz
  have HZR := hide hzR
  have CR := hide CR
  obtain ⟨ta, tc, rfl⟩ := slice_form hrow.1
  have c3 := h.c3
  have f3 := h.frz 3
  have hlt := h.lt
  clear h ho hrow hold hz hzR
  generalize hfl : (s.full || decide (most ≤ (l.length : Int))) = fl at HO
  have HS := hide (H.out.setFull fl)
  cases hsf : s.full with
  | true =>
    rw [hsf] at c3
    have hb : true = fl := by rw [hsf] at hfl; simpa using hfl
    subst hb
    clear hsf hfl
    go_enter Tryz.func151, Tryz.ntmps151
    go_wp2_with fail
    refine (CR.out _ _ HS.out).mono ?_
    intro e w2 he
    rcases he.split with ⟨a, t, v, ho, rfl, hv, hR, hF⟩ | ⟨c, m, ho, rfl, hF⟩
    rotate_left 1
    · exact on_panic rfl (.of_bad (ho.symm.trans HO.out) (((Fq.refl R w).set 3 _).trans hF))
    have HO := hide (ho.symm.trans HO.out)
    have HR := hide hR
    have HF := hide (((Fq.refl R w).set 3 _).trans hF)
    have HZ2 : Hid (∀ g, w2.heap.size ≤ g → Z g) := hide fun g hg => HZ.out g (Nat.le_trans HF.out.size hg)
    have HROW2 := hide (HROW.out.keep (Kp.of_fq (T := [93]) HF.out H.out (by decide)) (by decide))
    have HC : Hid (∀ w w' b ys, Kp [] Z w w' → cI w b ys → cI w' b ys) := hide (fun _ _ _ _ _ h => h)
    have HOLD2 : Hid (∀ i b, l[i]? = some b → cI w2 b ((xs.drop (i * 1)).take 1)) := hide fun i b hi => HC.out _ _ _ _ (Kp.of_fq HF.out H.out (by decide)) (HOLD.out i b hi)
    cases hv
    clear he ho hR hF CR HS HROW HOLD H
    go_wp2_with (at_builtin; go_must (refine wpList_append_two _ rfl _ _ 90 rfl 0 93 iM _ 1 8 Tryz.underlying90 hiM zM0 zM1 zM2 rfl (by decide) _ _ _ rfl (HROW2.out.1.alloc _) ⟨w2.heap.size, 0, none⟩ 1 [.int .i64 a] rfl rfl (news_at rfl) (by simp [Value.oneCell']) (by unfold maxLen; omega) (by omega) (Nat.zero_le _) ?_))
    intro g cap w4 hown hg
    obtain ⟨p1, p2, p3⟩ := put_behind (a := a) HR.out rfl HROW2.out HOLD2.out (rfl) rfl HZ2.out HC.out (by decide) HZR.out hown hg
    have P1 := hide p1
    have P2 := hide p2
    have P3 := hide ((HF.out.fg _).trans p3)
    clear p1 p2 p3 hown hg HROW2 HOLD2 HR HF
    go_wp2_with fail
    go_ret
    exact .of_ok HO.out P1.out P2.out P3.out
  | false =>
    rw [hsf] at c3
    have hb : (decide (most ≤ (l.length : Int))) = fl := by rw [hsf] at hfl; simpa using hfl
    clear hsf hfl
    go_enter Tryz.func151, Tryz.ntmps151
    go_wp2_with fail
    refine (CR.out _ _ HS.out).mono ?_
    intro e w2 he
    rcases he.split with ⟨a, t, v, ho, rfl, hv, hR, hF⟩ | ⟨c, m, ho, rfl, hF⟩
    rotate_left 1
    · exact on_panic rfl (.of_bad (ho.symm.trans HO.out) (((Fq.refl R w).set 3 _).trans hF))
    have HO := hide (ho.symm.trans HO.out)
    have HR := hide hR
    have HF := hide (((Fq.refl R w).set 3 _).trans hF)
    have HZ2 : Hid (∀ g, w2.heap.size ≤ g → Z g) := hide fun g hg => HZ.out g (Nat.le_trans HF.out.size hg)
    have HROW2 := hide (HROW.out.keep (Kp.of_fq (T := [93]) HF.out H.out (by decide)) (by decide))
    have HC : Hid (∀ w w' b ys, Kp [] Z w w' → cI w b ys → cI w' b ys) := hide (fun _ _ _ _ _ h => h)
    have HOLD2 : Hid (∀ i b, l[i]? = some b → cI w2 b ((xs.drop (i * 1)).take 1)) := hide fun i b hi => HC.out _ _ _ _ (Kp.of_fq HF.out H.out (by decide)) (HOLD.out i b hi)
    cases hv
    clear he ho hR hF CR HS HROW HOLD H
    go_wp2_with (at_builtin; go_must (refine wpList_append_two _ rfl _ _ 90 rfl 0 93 iM _ 1 8 Tryz.underlying90 hiM zM0 zM1 zM2 rfl (by decide) _ _ _ rfl (HROW2.out.1.alloc _) ⟨w2.heap.size, 0, none⟩ 1 [.int .i64 a] rfl rfl (news_at rfl) (by simp [Value.oneCell']) (by unfold maxLen; omega) (by omega) (Nat.zero_le _) ?_))
    intro g cap w4 hown hg
    obtain ⟨p1, p2, p3⟩ := put_behind (a := a) HR.out rfl HROW2.out HOLD2.out (rfl) rfl HZ2.out HC.out (by decide) HZR.out hown hg
    have P1 := hide p1
    have P2 := hide p2
    have P3 := hide ((HF.out.fg _).trans p3)
    clear p1 p2 p3 hown hg HROW2 HOLD2 HR HF
    go_wp2_with fail
    go_ret
    exact .of_ok HO.out P1.out P2.out P3.out

set_option maxRecDepth 100000 in
set_option maxHeartbeats 1600000 in
theorem add_term_term (readM : M TermM) (CR : ∀ s w, Rd R L N s st w → Calls Tryz.prog 196 #[.pointer (some ⟨R, 0, none⟩)] w (Ends R L N st w (vTerm (New w)) (readM s)))
    (Z : Nat → Prop) (l : List TermM) (tv : Value) (most : Int) (hl : l.length ≤ 70000) (hT : Rows Z 109 4 (cTerm Z) w l tv) (hz : ∀ g, w.heap.size ≤ g → Z g) (hzR : ∀ g, Z g → R < g)
    (h : Rd R L N s st w) (o : Out TermM) (ho : addM l.length most readM s = o) :
    Calls Tryz.prog 213 #[.pointer (some ⟨R, 0, none⟩), tv, .int .i64 most, .func (.func 196) #[.pointer (some ⟨R, 0, none⟩)] #[]] w
      (EndsA R L N st w tv.ownBlock (fun w' a v => Rows Z 109 4 (cTerm Z) w' (l ++ [a]) v) o) := by
  obtain ⟨iM, hiM, zM0, zM1, zM2⟩ := info_parts' info_term
  have HO := hide (set_go ho)
  have H := hide h
  obtain ⟨xs, hrow, hold⟩ := hT
  have HROW := hide hrow
  have HOLD := hide hold
  have HZ := hide hz
  have HZR := hide hzR
  have CR := hide CR
  obtain ⟨ta, tc, rfl⟩ := slice_form hrow.1
  have c3 := h.c3
  have f3 := h.frz 3
  have hlt := h.lt
  clear h ho hrow hold hz hzR
  generalize hfl : (s.full || decide (most ≤ (l.length : Int))) = fl at HO
  have HS := hide (H.out.setFull fl)
  cases hsf : s.full with
  | true =>
    rw [hsf] at c3
    have hb : true = fl := by rw [hsf] at hfl; simpa using hfl
    subst hb
    clear hsf hfl
    go_enter Tryz.func213, Tryz.ntmps213
    go_wp2_with fail
    refine (CR.out _ _ HS.out).mono ?_
    intro e w2 he
    rcases he.split with ⟨a, t, v, ho, rfl, hv, hR, hF⟩ | ⟨c, m, ho, rfl, hF⟩
    rotate_left 1
    · exact on_panic rfl (.of_bad (ho.symm.trans HO.out) (((Fq.refl R w).set 3 _).trans hF))
    have HO := hide (ho.symm.trans HO.out)
    have HR := hide hR
    have HF := hide (((Fq.refl R w).set 3 _).trans hF)
    have HZ2 : Hid (∀ g, w2.heap.size ≤ g → Z g) := hide fun g hg => HZ.out g (Nat.le_trans HF.out.size hg)
    have HROW2 := hide (HROW.out.keep (Kp.of_fq (T := [109]) HF.out H.out (by decide)) (by decide))
    have HC : Hid (∀ w w' b ys, Kp [9] Z w w' → (cTerm Z) w b ys → (cTerm Z) w' b ys) := hide (fun _ _ _ _ hk h => h.keep hk (by decide))
    have HOLD2 : Hid (∀ i b, l[i]? = some b → (cTerm Z) w2 b ((xs.drop (i * 4)).take 4)) := hide fun i b hi => HC.out _ _ _ _ (Kp.of_fq HF.out H.out (by decide)) (HOLD.out i b hi)
    obtain ⟨av, rfl, hv⟩ := hv
    have HV := hide (Strs.mono hv fun g hg => HZ.out g (by simpa [New] using hg))
    clear hv
    clear he ho hR hF CR HS HROW HOLD H
    go_wp2_with (at_builtin; go_must (refine wpList_append_two _ rfl _ _ 102 rfl 0 109 iM _ 4 56 Tryz.underlying102 hiM zM0 zM1 zM2 rfl (by decide) _ _ _ rfl (HROW2.out.1.alloc _) ⟨w2.heap.size, 0, none⟩ 1 [.int .i64 a.coef, .string ⟨a.pred.toArray⟩, av, .int .i64 a.value] rfl rfl (news_at rfl) (by intro u hu; simp only [List.mem_cons, List.not_mem_nil, or_false] at hu; rcases hu with rfl | rfl | rfl | rfl <;> first | rfl | exact rows_one HV.out) (by unfold maxLen; omega) (by omega) (Nat.zero_le _) ?_))
    intro g cap w4 hown hg
    obtain ⟨p1, p2, p3⟩ := put_behind (a := a) HR.out rfl HROW2.out HOLD2.out (⟨av, rfl, HV.out⟩) rfl HZ2.out HC.out (by decide) HZR.out hown hg
    have P1 := hide p1
    have P2 := hide p2
    have P3 := hide ((HF.out.fg _).trans p3)
    clear p1 p2 p3 hown hg HROW2 HOLD2 HR HF
    go_wp2_with fail
    go_ret
    exact .of_ok HO.out P1.out P2.out P3.out
  | false =>
    rw [hsf] at c3
    have hb : (decide (most ≤ (l.length : Int))) = fl := by rw [hsf] at hfl; simpa using hfl
    clear hsf hfl
    go_enter Tryz.func213, Tryz.ntmps213
    go_wp2_with fail
    refine (CR.out _ _ HS.out).mono ?_
    intro e w2 he
    rcases he.split with ⟨a, t, v, ho, rfl, hv, hR, hF⟩ | ⟨c, m, ho, rfl, hF⟩
    rotate_left 1
    · exact on_panic rfl (.of_bad (ho.symm.trans HO.out) (((Fq.refl R w).set 3 _).trans hF))
    have HO := hide (ho.symm.trans HO.out)
    have HR := hide hR
    have HF := hide (((Fq.refl R w).set 3 _).trans hF)
    have HZ2 : Hid (∀ g, w2.heap.size ≤ g → Z g) := hide fun g hg => HZ.out g (Nat.le_trans HF.out.size hg)
    have HROW2 := hide (HROW.out.keep (Kp.of_fq (T := [109]) HF.out H.out (by decide)) (by decide))
    have HC : Hid (∀ w w' b ys, Kp [9] Z w w' → (cTerm Z) w b ys → (cTerm Z) w' b ys) := hide (fun _ _ _ _ hk h => h.keep hk (by decide))
    have HOLD2 : Hid (∀ i b, l[i]? = some b → (cTerm Z) w2 b ((xs.drop (i * 4)).take 4)) := hide fun i b hi => HC.out _ _ _ _ (Kp.of_fq HF.out H.out (by decide)) (HOLD.out i b hi)
    obtain ⟨av, rfl, hv⟩ := hv
    have HV := hide (Strs.mono hv fun g hg => HZ.out g (by simpa [New] using hg))
    clear hv
    clear he ho hR hF CR HS HROW HOLD H
    go_wp2_with (at_builtin; go_must (refine wpList_append_two _ rfl _ _ 102 rfl 0 109 iM _ 4 56 Tryz.underlying102 hiM zM0 zM1 zM2 rfl (by decide) _ _ _ rfl (HROW2.out.1.alloc _) ⟨w2.heap.size, 0, none⟩ 1 [.int .i64 a.coef, .string ⟨a.pred.toArray⟩, av, .int .i64 a.value] rfl rfl (news_at rfl) (by intro u hu; simp only [List.mem_cons, List.not_mem_nil, or_false] at hu; rcases hu with rfl | rfl | rfl | rfl <;> first | rfl | exact rows_one HV.out) (by unfold maxLen; omega) (by omega) (Nat.zero_le _) ?_))
    intro g cap w4 hown hg
    obtain ⟨p1, p2, p3⟩ := put_behind (a := a) HR.out rfl HROW2.out HOLD2.out (⟨av, rfl, HV.out⟩) rfl HZ2.out HC.out (by decide) HZR.out hown hg
    have P1 := hide p1
    have P2 := hide p2
    have P3 := hide ((HF.out.fg _).trans p3)
    clear p1 p2 p3 hown hg HROW2 HOLD2 HR HF
    go_wp2_with fail
    go_ret
    exact .of_ok HO.out P1.out P2.out P3.out

set_option maxRecDepth 100000 in
set_option maxHeartbeats 1600000 in
theorem add_prem_prem (readM : M PremM) (CR : ∀ s w, Rd R L N s st w → Calls Tryz.prog 132 #[.pointer (some ⟨R, 0, none⟩)] w (Ends R L N st w (vPrem (New w)) (readM s)))
    (Z : Nat → Prop) (l : List PremM) (tv : Value) (most : Int) (hl : l.length ≤ 70000) (hT : Rows Z 107 11 (cPrem Z) w l tv) (hz : ∀ g, w.heap.size ≤ g → Z g) (hzR : ∀ g, Z g → R < g)
    (h : Rd R L N s st w) (o : Out PremM) (ho : addM l.length most readM s = o) :
    Calls Tryz.prog 156 #[.pointer (some ⟨R, 0, none⟩), tv, .int .i64 most, .func (.func 132) #[.pointer (some ⟨R, 0, none⟩)] #[]] w
      (EndsA R L N st w tv.ownBlock (fun w' a v => Rows Z 107 11 (cPrem Z) w' (l ++ [a]) v) o) := by
  obtain ⟨iM, hiM, zM0, zM1, zM2⟩ := info_parts' info_prem
  have HO := hide (set_go ho)
  have H := hide h
  obtain ⟨xs, hrow, hold⟩ := hT
  have HROW := hide hrow
  have HOLD := hide hold
  have HZ := hide hz
  have HZR := hide hzR
  have CR := hide CR
  obtain ⟨ta, tc, rfl⟩ := slice_form hrow.1
  have c3 := h.c3
  have f3 := h.frz 3
  have hlt := h.lt
  clear h ho hrow hold hz hzR
  generalize hfl : (s.full || decide (most ≤ (l.length : Int))) = fl at HO
  have HS := hide (H.out.setFull fl)
  cases hsf : s.full with
  | true =>
    rw [hsf] at c3
    have hb : true = fl := by rw [hsf] at hfl; simpa using hfl
    subst hb
    clear hsf hfl
    go_enter Tryz.func156, Tryz.ntmps156
    go_wp2_with fail
    refine (CR.out _ _ HS.out).mono ?_
    intro e w2 he
    rcases he.split with ⟨a, t, v, ho, rfl, hv, hR, hF⟩ | ⟨c, m, ho, rfl, hF⟩
    rotate_left 1
    · exact on_panic rfl (.of_bad (ho.symm.trans HO.out) (((Fq.refl R w).set 3 _).trans hF))
    have HO := hide (ho.symm.trans HO.out)
    have HR := hide hR
    have HF := hide (((Fq.refl R w).set 3 _).trans hF)
    have HZ2 : Hid (∀ g, w2.heap.size ≤ g → Z g) := hide fun g hg => HZ.out g (Nat.le_trans HF.out.size hg)
    have HROW2 := hide (HROW.out.keep (Kp.of_fq (T := [107]) HF.out H.out (by decide)) (by decide))
    have HC : Hid (∀ w w' b ys, Kp [9, 109] Z w w' → (cPrem Z) w b ys → (cPrem Z) w' b ys) := hide (fun _ _ _ _ hk h => h.keep hk (by decide) (by decide))
    have HOLD2 : Hid (∀ i b, l[i]? = some b → (cPrem Z) w2 b ((xs.drop (i * 11)).take 11)) := hide fun i b hi => HC.out _ _ _ _ (Kp.of_fq HF.out H.out (by decide)) (HOLD.out i b hi)
    obtain ⟨av, lv, rv, rfl, hv⟩ := hv
    have HV := hide ((⟨Strs.mono hv.1 fun g hg => HZ.out g (by simpa [New] using hg), Terms.mono hv.2.1 fun g hg => HZ.out g (by simpa [New] using hg), Terms.mono hv.2.2 fun g hg => HZ.out g (by simpa [New] using hg)⟩ : Strs Z w2 a.lit.args av ∧ Terms Z w2 a.guard.left lv ∧ Terms Z w2 a.guard.right rv))
    clear hv
    clear he ho hR hF CR HS HROW HOLD H
    go_wp2_with (at_builtin; go_must (refine wpList_append_two _ rfl _ _ 95 rfl 0 107 iM _ 11 160 Tryz.underlying95 hiM zM0 zM1 zM2 rfl (by decide) _ _ _ rfl (HROW2.out.1.alloc _) ⟨w2.heap.size, 0, none⟩ 1 [.int .i64 a.kind, .bool a.lit.neg, .string ⟨a.lit.pred.toArray⟩, av, .bool a.lit.hasValue, .int .i64 a.lit.value, lv, .int .i64 a.guard.op, rv, .string ⟨a.a.toArray⟩, .string ⟨a.b.toArray⟩] rfl rfl (news_at rfl) (by intro u hu; simp only [List.mem_cons, List.not_mem_nil, or_false] at hu; rcases hu with rfl | rfl | rfl | rfl | rfl | rfl | rfl | rfl | rfl | rfl | rfl <;> first | rfl | exact rows_one HV.out.1 | exact rows_one HV.out.2.1 | exact rows_one HV.out.2.2) (by unfold maxLen; omega) (by omega) (Nat.zero_le _) ?_))
    intro g cap w4 hown hg
    obtain ⟨p1, p2, p3⟩ := put_behind (a := a) HR.out rfl HROW2.out HOLD2.out (⟨av, lv, rv, rfl, HV.out⟩) rfl HZ2.out HC.out (by decide) HZR.out hown hg
    have P1 := hide p1
    have P2 := hide p2
    have P3 := hide ((HF.out.fg _).trans p3)
    clear p1 p2 p3 hown hg HROW2 HOLD2 HR HF
    go_wp2_with fail
    go_ret
    exact .of_ok HO.out P1.out P2.out P3.out
  | false =>
    rw [hsf] at c3
    have hb : (decide (most ≤ (l.length : Int))) = fl := by rw [hsf] at hfl; simpa using hfl
    clear hsf hfl
    go_enter Tryz.func156, Tryz.ntmps156
    go_wp2_with fail
    refine (CR.out _ _ HS.out).mono ?_
    intro e w2 he
    rcases he.split with ⟨a, t, v, ho, rfl, hv, hR, hF⟩ | ⟨c, m, ho, rfl, hF⟩
    rotate_left 1
    · exact on_panic rfl (.of_bad (ho.symm.trans HO.out) (((Fq.refl R w).set 3 _).trans hF))
    have HO := hide (ho.symm.trans HO.out)
    have HR := hide hR
    have HF := hide (((Fq.refl R w).set 3 _).trans hF)
    have HZ2 : Hid (∀ g, w2.heap.size ≤ g → Z g) := hide fun g hg => HZ.out g (Nat.le_trans HF.out.size hg)
    have HROW2 := hide (HROW.out.keep (Kp.of_fq (T := [107]) HF.out H.out (by decide)) (by decide))
    have HC : Hid (∀ w w' b ys, Kp [9, 109] Z w w' → (cPrem Z) w b ys → (cPrem Z) w' b ys) := hide (fun _ _ _ _ hk h => h.keep hk (by decide) (by decide))
    have HOLD2 : Hid (∀ i b, l[i]? = some b → (cPrem Z) w2 b ((xs.drop (i * 11)).take 11)) := hide fun i b hi => HC.out _ _ _ _ (Kp.of_fq HF.out H.out (by decide)) (HOLD.out i b hi)
    obtain ⟨av, lv, rv, rfl, hv⟩ := hv
    have HV := hide ((⟨Strs.mono hv.1 fun g hg => HZ.out g (by simpa [New] using hg), Terms.mono hv.2.1 fun g hg => HZ.out g (by simpa [New] using hg), Terms.mono hv.2.2 fun g hg => HZ.out g (by simpa [New] using hg)⟩ : Strs Z w2 a.lit.args av ∧ Terms Z w2 a.guard.left lv ∧ Terms Z w2 a.guard.right rv))
    clear hv
    clear he ho hR hF CR HS HROW HOLD H
    go_wp2_with (at_builtin; go_must (refine wpList_append_two _ rfl _ _ 95 rfl 0 107 iM _ 11 160 Tryz.underlying95 hiM zM0 zM1 zM2 rfl (by decide) _ _ _ rfl (HROW2.out.1.alloc _) ⟨w2.heap.size, 0, none⟩ 1 [.int .i64 a.kind, .bool a.lit.neg, .string ⟨a.lit.pred.toArray⟩, av, .bool a.lit.hasValue, .int .i64 a.lit.value, lv, .int .i64 a.guard.op, rv, .string ⟨a.a.toArray⟩, .string ⟨a.b.toArray⟩] rfl rfl (news_at rfl) (by intro u hu; simp only [List.mem_cons, List.not_mem_nil, or_false] at hu; rcases hu with rfl | rfl | rfl | rfl | rfl | rfl | rfl | rfl | rfl | rfl | rfl <;> first | rfl | exact rows_one HV.out.1 | exact rows_one HV.out.2.1 | exact rows_one HV.out.2.2) (by unfold maxLen; omega) (by omega) (Nat.zero_le _) ?_))
    intro g cap w4 hown hg
    obtain ⟨p1, p2, p3⟩ := put_behind (a := a) HR.out rfl HROW2.out HOLD2.out (⟨av, lv, rv, rfl, HV.out⟩) rfl HZ2.out HC.out (by decide) HZR.out hown hg
    have P1 := hide p1
    have P2 := hide p2
    have P3 := hide ((HF.out.fg _).trans p3)
    clear p1 p2 p3 hown hg HROW2 HOLD2 HR HF
    go_wp2_with fail
    go_ret
    exact .of_ok HO.out P1.out P2.out P3.out

end
end Go.Proofs.YthnjmfkiohgkkaaGreatDoor.Sy
