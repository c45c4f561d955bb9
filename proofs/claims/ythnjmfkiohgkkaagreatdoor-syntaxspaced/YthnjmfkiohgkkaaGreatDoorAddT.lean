/- The statute's lists, with one thing more. By program. -/
import Derived.Test.YthnjmfkiohgkkaaGreatDoorLocs
namespace Go.Proofs.YthnjmfkiohgkkaaGreatDoor.Sy
open Go.RowKit

theorem info_pred : (Tryz.prog.info? 92).map (fun i => (i.zero, i.size, i.bytes)) = some (some (.agg #[.string ⟨#[]⟩, .int .i64 0, .slice none 0 0, .slice none 0 0]), 4, 72) := by kernel_rfl
theorem info_class : (Tryz.prog.info? 22).map (fun i => (i.zero, i.size, i.bytes)) = some (some (.slice none 0 0), 1, 24) := by kernel_rfl
theorem info_source : (Tryz.prog.info? 126).map (fun i => (i.zero, i.size, i.bytes)) = some (some (.agg #[.string ⟨#[]⟩, .int .i64 0]), 2, 24) := by kernel_rfl
theorem info_except : (Tryz.prog.info? 128).map (fun i => (i.zero, i.size, i.bytes)) = some (some (.agg #[.string ⟨#[]⟩, .string ⟨#[]⟩]), 2, 32) := by kernel_rfl
theorem info_rule : (Tryz.prog.info? 100).map (fun i => (i.zero, i.size, i.bytes)) = some (some (.agg #[.string ⟨#[]⟩, .string ⟨#[]⟩, .int .i64 0, .int .i64 0, .slice none 0 0, .int .i64 0, .bool false, .string ⟨#[]⟩, .slice none 0 0, .bool false, .int .i64 0]), 11, 144) := by kernel_rfl
theorem info_total : (Tryz.prog.info? 111).map (fun i => (i.zero, i.size, i.bytes)) = some (some (.agg #[.string ⟨#[]⟩, .string ⟨#[]⟩, .slice none 0 0, .bool false, .int .i64 0]), 5, 72) := by kernel_rfl

section
variable (R : Nat) (L : List Tok) (N : Nat) (s : RS) (st : St9) (w : World)

set_option maxRecDepth 100000 in
set_option maxHeartbeats 1600000 in
theorem add_pred_plain (readM : M PredM) (CR : ∀ s w, Rd R L N s st w → Calls Tryz.prog 75 #[.pointer (some ⟨R, 0, none⟩)] w (Ends R L N st w (vPred (New w)) (readM s)))
    (Z : Nat → Prop) (l : List PredM) (tv : Value) (most : Int) (hl : l.length ≤ 70000) (hT : Rows Z 92 4 (cPred Z) w l tv) (hz : ∀ g, w.heap.size ≤ g → Z g) (hzR : ∀ g, Z g → R < g)
    (h : Rd R L N s st w) (o : Out PredM) (ho : addM l.length most readM s = o) :
    Calls Tryz.prog 74 #[.pointer (some ⟨R, 0, none⟩), tv, .int .i64 most, .func (.func 75) #[.pointer (some ⟨R, 0, none⟩)] #[]] w
      (EndsA R L N st w tv.ownBlock (fun w' a v => Rows Z 92 4 (cPred Z) w' (l ++ [a]) v) o) := by
  obtain ⟨iM, hiM, zM0, zM1, zM2⟩ := info_parts' info_pred
  have HO := hide (set_go ho)
  have H := hide h
  obtain ⟨xs, hrow, hold⟩ := hT
  have HROW := hide hrow
  have HOLD := hide hold
  have HZ := hide hz
  have HZR := hide hzR
  have CR := hide CR
  obtain ⟨ta, tc, rfl⟩ := slice_form hrow.1
  have c3 := h.c3
  have f3 := h.frz 3
  have hlt := h.lt
  clear h ho hrow hold hz hzR
  generalize hfl : (s.full || decide (most ≤ (l.length : Int))) = fl at HO
  have HS := hide (H.out.setFull fl)
  cases hsf : s.full with
  | true =>
    rw [hsf] at c3
    have hb : true = fl := by rw [hsf] at hfl; simpa using hfl
    subst hb
    clear hsf hfl
    go_enter Tryz.func74, Tryz.ntmps74
    go_wp2_with fail
    refine (CR.out _ _ HS.out).mono ?_
    intro e w2 he
    rcases he.split with ⟨a, t, v, ho, rfl, hv, hR, hF⟩ | ⟨c, m, ho, rfl, hF⟩
    rotate_left 1
    · exact on_panic rfl (.of_bad (ho.symm.trans HO.out) (((Fq.refl R w).set 3 _).trans hF))
    have HO := hide (ho.symm.trans HO.out)
    have HR := hide hR
    have HF := hide (((Fq.refl R w).set 3 _).trans hF)
    have HZ2 : Hid (∀ g, w2.heap.size ≤ g → Z g) := hide fun g hg => HZ.out g (Nat.le_trans HF.out.size hg)
    have HROW2 := hide (HROW.out.keep (Kp.of_fq (T := [92]) HF.out H.out (by decide)) (by decide))
    have HC : Hid (∀ w w' b ys, Kp inner Z w w' → (cPred Z) w b ys → (cPred Z) w' b ys) := hide (fun _ _ _ _ hk h => h.keep hk)
    have HOLD2 : Hid (∀ i b, l[i]? = some b → (cPred Z) w2 b ((xs.drop (i * 4)).take 4)) := hide fun i b hi => HC.out _ _ _ _ (Kp.of_fq HF.out H.out (by decide)) (HOLD.out i b hi)
    obtain ⟨kv, vv, rfl, hv⟩ := hv
    have HV := hide ((⟨Strs.mono hv.1 fun g hg => HZ.out g (by simpa [New] using hg), Moneys.mono hv.2 fun g hg => HZ.out g (by simpa [New] using hg)⟩ : Strs Z w2 a.kinds kv ∧ Moneys Z w2 a.values vv))
    clear hv
    clear he ho hR hF CR HS HROW HOLD H
    go_wp2_with (at_builtin; go_must (refine wpList_append_two _ rfl _ _ 24 rfl 0 92 iM _ 4 72 Tryz.underlying24 hiM zM0 zM1 zM2 rfl (by decide) _ _ _ rfl (HROW2.out.1.alloc _) ⟨w2.heap.size, 0, none⟩ 1 [.string ⟨a.name.toArray⟩, .int .i64 a.sort, kv, vv] rfl rfl (news_at rfl) (by intro u hu; simp only [List.mem_cons, List.not_mem_nil, or_false] at hu; rcases hu with rfl | rfl | rfl | rfl <;> first | rfl | exact rows_one HV.out.1 | exact rows_one HV.out.2) (by unfold maxLen; omega) (by omega) (Nat.zero_le _) ?_))
    intro g cap w4 hown hg
    obtain ⟨p1, p2, p3⟩ := put_behind (a := a) HR.out rfl HROW2.out HOLD2.out (⟨kv, vv, rfl, HV.out⟩) rfl HZ2.out HC.out (by decide) HZR.out hown hg
    have P1 := hide p1
    have P2 := hide p2
    have P3 := hide ((HF.out.fg _).trans p3)
    clear p1 p2 p3 hown hg HROW2 HOLD2 HR HF
    go_wp2_with fail
    go_ret
    exact .of_ok HO.out P1.out P2.out P3.out
  | false =>
    rw [hsf] at c3
    have hb : (decide (most ≤ (l.length : Int))) = fl := by rw [hsf] at hfl; simpa using hfl
    clear hsf hfl
    go_enter Tryz.func74, Tryz.ntmps74
    go_wp2_with fail
    refine (CR.out _ _ HS.out).mono ?_
    intro e w2 he
    rcases he.split with ⟨a, t, v, ho, rfl, hv, hR, hF⟩ | ⟨c, m, ho, rfl, hF⟩
    rotate_left 1
    · exact on_panic rfl (.of_bad (ho.symm.trans HO.out) (((Fq.refl R w).set 3 _).trans hF))
    have HO := hide (ho.symm.trans HO.out)
    have HR := hide hR
    have HF := hide (((Fq.refl R w).set 3 _).trans hF)
    have HZ2 : Hid (∀ g, w2.heap.size ≤ g → Z g) := hide fun g hg => HZ.out g (Nat.le_trans HF.out.size hg)
    have HROW2 := hide (HROW.out.keep (Kp.of_fq (T := [92]) HF.out H.out (by decide)) (by decide))
    have HC : Hid (∀ w w' b ys, Kp inner Z w w' → (cPred Z) w b ys → (cPred Z) w' b ys) := hide (fun _ _ _ _ hk h => h.keep hk)
    have HOLD2 : Hid (∀ i b, l[i]? = some b → (cPred Z) w2 b ((xs.drop (i * 4)).take 4)) := hide fun i b hi => HC.out _ _ _ _ (Kp.of_fq HF.out H.out (by decide)) (HOLD.out i b hi)
    obtain ⟨kv, vv, rfl, hv⟩ := hv
    have HV := hide ((⟨Strs.mono hv.1 fun g hg => HZ.out g (by simpa [New] using hg), Moneys.mono hv.2 fun g hg => HZ.out g (by simpa [New] using hg)⟩ : Strs Z w2 a.kinds kv ∧ Moneys Z w2 a.values vv))
    clear hv
    clear he ho hR hF CR HS HROW HOLD H
    go_wp2_with (at_builtin; go_must (refine wpList_append_two _ rfl _ _ 24 rfl 0 92 iM _ 4 72 Tryz.underlying24 hiM zM0 zM1 zM2 rfl (by decide) _ _ _ rfl (HROW2.out.1.alloc _) ⟨w2.heap.size, 0, none⟩ 1 [.string ⟨a.name.toArray⟩, .int .i64 a.sort, kv, vv] rfl rfl (news_at rfl) (by intro u hu; simp only [List.mem_cons, List.not_mem_nil, or_false] at hu; rcases hu with rfl | rfl | rfl | rfl <;> first | rfl | exact rows_one HV.out.1 | exact rows_one HV.out.2) (by unfold maxLen; omega) (by omega) (Nat.zero_le _) ?_))
    intro g cap w4 hown hg
    obtain ⟨p1, p2, p3⟩ := put_behind (a := a) HR.out rfl HROW2.out HOLD2.out (⟨kv, vv, rfl, HV.out⟩) rfl HZ2.out HC.out (by decide) HZR.out hown hg
    have P1 := hide p1
    have P2 := hide p2
    have P3 := hide ((HF.out.fg _).trans p3)
    clear p1 p2 p3 hown hg HROW2 HOLD2 HR HF
    go_wp2_with fail
    go_ret
    exact .of_ok HO.out P1.out P2.out P3.out

set_option maxRecDepth 100000 in
set_option maxHeartbeats 1600000 in
theorem add_pred_number (readM : M PredM) (CR : ∀ s w, Rd R L N s st w → Calls Tryz.prog 76 #[.pointer (some ⟨R, 0, none⟩)] w (Ends R L N st w (vPred (New w)) (readM s)))
    (Z : Nat → Prop) (l : List PredM) (tv : Value) (most : Int) (hl : l.length ≤ 70000) (hT : Rows Z 92 4 (cPred Z) w l tv) (hz : ∀ g, w.heap.size ≤ g → Z g) (hzR : ∀ g, Z g → R < g)
    (h : Rd R L N s st w) (o : Out PredM) (ho : addM l.length most readM s = o) :
    Calls Tryz.prog 74 #[.pointer (some ⟨R, 0, none⟩), tv, .int .i64 most, .func (.func 76) #[.pointer (some ⟨R, 0, none⟩)] #[]] w
      (EndsA R L N st w tv.ownBlock (fun w' a v => Rows Z 92 4 (cPred Z) w' (l ++ [a]) v) o) := by
  obtain ⟨iM, hiM, zM0, zM1, zM2⟩ := info_parts' info_pred
  have HO := hide (set_go ho)
  have H := hide h
  obtain ⟨xs, hrow, hold⟩ := hT
  have HROW := hide hrow
  have HOLD := hide hold
  have HZ := hide hz
  have HZR := hide hzR
  have CR := hide CR
  obtain ⟨ta, tc, rfl⟩ := slice_form hrow.1
  have c3 := h.c3
  have f3 := h.frz 3
  have hlt := h.lt
  clear h ho hrow hold hz hzR
  generalize hfl : (s.full || decide (most ≤ (l.length : Int))) = fl at HO
  have HS := hide (H.out.setFull fl)
  cases hsf : s.full with
  | true =>
    rw [hsf] at c3
    have hb : true = fl := by rw [hsf] at hfl; simpa using hfl
    subst hb
    clear hsf hfl
    go_enter Tryz.func74, Tryz.ntmps74
    go_wp2_with fail
    refine (CR.out _ _ HS.out).mono ?_
    intro e w2 he
    rcases he.split with ⟨a, t, v, ho, rfl, hv, hR, hF⟩ | ⟨c, m, ho, rfl, hF⟩
    rotate_left 1
    · exact on_panic rfl (.of_bad (ho.symm.trans HO.out) (((Fq.refl R w).set 3 _).trans hF))
    have HO := hide (ho.symm.trans HO.out)
    have HR := hide hR
    have HF := hide (((Fq.refl R w).set 3 _).trans hF)
    have HZ2 : Hid (∀ g, w2.heap.size ≤ g → Z g) := hide fun g hg => HZ.out g (Nat.le_trans HF.out.size hg)
    have HROW2 := hide (HROW.out.keep (Kp.of_fq (T := [92]) HF.out H.out (by decide)) (by decide))
    have HC : Hid (∀ w w' b ys, Kp inner Z w w' → (cPred Z) w b ys → (cPred Z) w' b ys) := hide (fun _ _ _ _ hk h => h.keep hk)
    have HOLD2 : Hid (∀ i b, l[i]? = some b → (cPred Z) w2 b ((xs.drop (i * 4)).take 4)) := hide fun i b hi => HC.out _ _ _ _ (Kp.of_fq HF.out H.out (by decide)) (HOLD.out i b hi)
    obtain ⟨kv, vv, rfl, hv⟩ := hv
    have HV := hide ((⟨Strs.mono hv.1 fun g hg => HZ.out g (by simpa [New] using hg), Moneys.mono hv.2 fun g hg => HZ.out g (by simpa [New] using hg)⟩ : Strs Z w2 a.kinds kv ∧ Moneys Z w2 a.values vv))
    clear hv
    clear he ho hR hF CR HS HROW HOLD H
    go_wp2_with (at_builtin; go_must (refine wpList_append_two _ rfl _ _ 24 rfl 0 92 iM _ 4 72 Tryz.underlying24 hiM zM0 zM1 zM2 rfl (by decide) _ _ _ rfl (HROW2.out.1.alloc _) ⟨w2.heap.size, 0, none⟩ 1 [.string ⟨a.name.toArray⟩, .int .i64 a.sort, kv, vv] rfl rfl (news_at rfl) (by intro u hu; simp only [List.mem_cons, List.not_mem_nil, or_false] at hu; rcases hu with rfl | rfl | rfl | rfl <;> first | rfl | exact rows_one HV.out.1 | exact rows_one HV.out.2) (by unfold maxLen; omega) (by omega) (Nat.zero_le _) ?_))
    intro g cap w4 hown hg
    obtain ⟨p1, p2, p3⟩ := put_behind (a := a) HR.out rfl HROW2.out HOLD2.out (⟨kv, vv, rfl, HV.out⟩) rfl HZ2.out HC.out (by decide) HZR.out hown hg
    have P1 := hide p1
    have P2 := hide p2
    have P3 := hide ((HF.out.fg _).trans p3)
    clear p1 p2 p3 hown hg HROW2 HOLD2 HR HF
    go_wp2_with fail
    go_ret
    exact .of_ok HO.out P1.out P2.out P3.out
  | false =>
    rw [hsf] at c3
    have hb : (decide (most ≤ (l.length : Int))) = fl := by rw [hsf] at hfl; simpa using hfl
    clear hsf hfl
    go_enter Tryz.func74, Tryz.ntmps74
    go_wp2_with fail
    refine (CR.out _ _ HS.out).mono ?_
    intro e w2 he
    rcases he.split with ⟨a, t, v, ho, rfl, hv, hR, hF⟩ | ⟨c, m, ho, rfl, hF⟩
    rotate_left 1
    · exact on_panic rfl (.of_bad (ho.symm.trans HO.out) (((Fq.refl R w).set 3 _).trans hF))
    have HO := hide (ho.symm.trans HO.out)
    have HR := hide hR
    have HF := hide (((Fq.refl R w).set 3 _).trans hF)
    have HZ2 : Hid (∀ g, w2.heap.size ≤ g → Z g) := hide fun g hg => HZ.out g (Nat.le_trans HF.out.size hg)
    have HROW2 := hide (HROW.out.keep (Kp.of_fq (T := [92]) HF.out H.out (by decide)) (by decide))
    have HC : Hid (∀ w w' b ys, Kp inner Z w w' → (cPred Z) w b ys → (cPred Z) w' b ys) := hide (fun _ _ _ _ hk h => h.keep hk)
    have HOLD2 : Hid (∀ i b, l[i]? = some b → (cPred Z) w2 b ((xs.drop (i * 4)).take 4)) := hide fun i b hi => HC.out _ _ _ _ (Kp.of_fq HF.out H.out (by decide)) (HOLD.out i b hi)
    obtain ⟨kv, vv, rfl, hv⟩ := hv
    have HV := hide ((⟨Strs.mono hv.1 fun g hg => HZ.out g (by simpa [New] using hg), Moneys.mono hv.2 fun g hg => HZ.out g (by simpa [New] using hg)⟩ : Strs Z w2 a.kinds kv ∧ Moneys Z w2 a.values vv))
    clear hv
    clear he ho hR hF CR HS HROW HOLD H
    go_wp2_with (at_builtin; go_must (refine wpList_append_two _ rfl _ _ 24 rfl 0 92 iM _ 4 72 Tryz.underlying24 hiM zM0 zM1 zM2 rfl (by decide) _ _ _ rfl (HROW2.out.1.alloc _) ⟨w2.heap.size, 0, none⟩ 1 [.string ⟨a.name.toArray⟩, .int .i64 a.sort, kv, vv] rfl rfl (news_at rfl) (by intro u hu; simp only [List.mem_cons, List.not_mem_nil, or_false] at hu; rcases hu with rfl | rfl | rfl | rfl <;> first | rfl | exact rows_one HV.out.1 | exact rows_one HV.out.2) (by unfold maxLen; omega) (by omega) (Nat.zero_le _) ?_))
    intro g cap w4 hown hg
    obtain ⟨p1, p2, p3⟩ := put_behind (a := a) HR.out rfl HROW2.out HOLD2.out (⟨kv, vv, rfl, HV.out⟩) rfl HZ2.out HC.out (by decide) HZR.out hown hg
    have P1 := hide p1
    have P2 := hide p2
    have P3 := hide ((HF.out.fg _).trans p3)
    clear p1 p2 p3 hown hg HROW2 HOLD2 HR HF
    go_wp2_with fail
    go_ret
    exact .of_ok HO.out P1.out P2.out P3.out

set_option maxRecDepth 100000 in
set_option maxHeartbeats 1600000 in
theorem add_pred_amount (readM : M PredM) (CR : ∀ s w, Rd R L N s st w → Calls Tryz.prog 77 #[.pointer (some ⟨R, 0, none⟩)] w (Ends R L N st w (vPred (New w)) (readM s)))
    (Z : Nat → Prop) (l : List PredM) (tv : Value) (most : Int) (hl : l.length ≤ 70000) (hT : Rows Z 92 4 (cPred Z) w l tv) (hz : ∀ g, w.heap.size ≤ g → Z g) (hzR : ∀ g, Z g → R < g)
    (h : Rd R L N s st w) (o : Out PredM) (ho : addM l.length most readM s = o) :
    Calls Tryz.prog 74 #[.pointer (some ⟨R, 0, none⟩), tv, .int .i64 most, .func (.func 77) #[.pointer (some ⟨R, 0, none⟩)] #[]] w
      (EndsA R L N st w tv.ownBlock (fun w' a v => Rows Z 92 4 (cPred Z) w' (l ++ [a]) v) o) := by
  obtain ⟨iM, hiM, zM0, zM1, zM2⟩ := info_parts' info_pred
  have HO := hide (set_go ho)
  have H := hide h
  obtain ⟨xs, hrow, hold⟩ := hT
  have HROW := hide hrow
  have HOLD := hide hold
  have HZ := hide hz
  have HZR := hide hzR
  have CR := hide CR
  obtain ⟨ta, tc, rfl⟩ := slice_form hrow.1
  have c3 := h.c3
  have f3 := h.frz 3
  have hlt := h.lt
  clear h ho hrow hold hz hzR
  generalize hfl : (s.full || decide (most ≤ (l.length : Int))) = fl at HO
  have HS := hide (H.out.setFull fl)
  cases hsf : s.full with
  | true =>
    rw [hsf] at c3
    have hb : true = fl := by rw [hsf] at hfl; simpa using hfl
    subst hb
    clear hsf hfl
    go_enter Tryz.func74, Tryz.ntmps74
    go_wp2_with fail
    refine (CR.out _ _ HS.out).mono ?_
    intro e w2 he
    rcases he.split with ⟨a, t, v, ho, rfl, hv, hR, hF⟩ | ⟨c, m, ho, rfl, hF⟩
    rotate_left 1
    · exact on_panic rfl (.of_bad (ho.symm.trans HO.out) (((Fq.refl R w).set 3 _).trans hF))
    have HO := hide (ho.symm.trans HO.out)
    have HR := hide hR
    have HF := hide (((Fq.refl R w).set 3 _).trans hF)
    have HZ2 : Hid (∀ g, w2.heap.size ≤ g → Z g) := hide fun g hg => HZ.out g (Nat.le_trans HF.out.size hg)
    have HROW2 := hide (HROW.out.keep (Kp.of_fq (T := [92]) HF.out H.out (by decide)) (by decide))
    have HC : Hid (∀ w w' b ys, Kp inner Z w w' → (cPred Z) w b ys → (cPred Z) w' b ys) := hide (fun _ _ _ _ hk h => h.keep hk)
    have HOLD2 : Hid (∀ i b, l[i]? = some b → (cPred Z) w2 b ((xs.drop (i * 4)).take 4)) := hide fun i b hi => HC.out _ _ _ _ (Kp.of_fq HF.out H.out (by decide)) (HOLD.out i b hi)
    obtain ⟨kv, vv, rfl, hv⟩ := hv
    have HV := hide ((⟨Strs.mono hv.1 fun g hg => HZ.out g (by simpa [New] using hg), Moneys.mono hv.2 fun g hg => HZ.out g (by simpa [New] using hg)⟩ : Strs Z w2 a.kinds kv ∧ Moneys Z w2 a.values vv))
    clear hv
    clear he ho hR hF CR HS HROW HOLD H
    go_wp2_with (at_builtin; go_must (refine wpList_append_two _ rfl _ _ 24 rfl 0 92 iM _ 4 72 Tryz.underlying24 hiM zM0 zM1 zM2 rfl (by decide) _ _ _ rfl (HROW2.out.1.alloc _) ⟨w2.heap.size, 0, none⟩ 1 [.string ⟨a.name.toArray⟩, .int .i64 a.sort, kv, vv] rfl rfl (news_at rfl) (by intro u hu; simp only [List.mem_cons, List.not_mem_nil, or_false] at hu; rcases hu with rfl | rfl | rfl | rfl <;> first | rfl | exact rows_one HV.out.1 | exact rows_one HV.out.2) (by unfold maxLen; omega) (by omega) (Nat.zero_le _) ?_))
    intro g cap w4 hown hg
    obtain ⟨p1, p2, p3⟩ := put_behind (a := a) HR.out rfl HROW2.out HOLD2.out (⟨kv, vv, rfl, HV.out⟩) rfl HZ2.out HC.out (by decide) HZR.out hown hg
    have P1 := hide p1
    have P2 := hide p2
    have P3 := hide ((HF.out.fg _).trans p3)
    clear p1 p2 p3 hown hg HROW2 HOLD2 HR HF
    go_wp2_with fail
    go_ret
    exact .of_ok HO.out P1.out P2.out P3.out
  | false =>
    rw [hsf] at c3
    have hb : (decide (most ≤ (l.length : Int))) = fl := by rw [hsf] at hfl; simpa using hfl
    clear hsf hfl
    go_enter Tryz.func74, Tryz.ntmps74
    go_wp2_with fail
    refine (CR.out _ _ HS.out).mono ?_
    intro e w2 he
    rcases he.split with ⟨a, t, v, ho, rfl, hv, hR, hF⟩ | ⟨c, m, ho, rfl, hF⟩
    rotate_left 1
    · exact on_panic rfl (.of_bad (ho.symm.trans HO.out) (((Fq.refl R w).set 3 _).trans hF))
    have HO := hide (ho.symm.trans HO.out)
    have HR := hide hR
    have HF := hide (((Fq.refl R w).set 3 _).trans hF)
    have HZ2 : Hid (∀ g, w2.heap.size ≤ g → Z g) := hide fun g hg => HZ.out g (Nat.le_trans HF.out.size hg)
    have HROW2 := hide (HROW.out.keep (Kp.of_fq (T := [92]) HF.out H.out (by decide)) (by decide))
    have HC : Hid (∀ w w' b ys, Kp inner Z w w' → (cPred Z) w b ys → (cPred Z) w' b ys) := hide (fun _ _ _ _ hk h => h.keep hk)
    have HOLD2 : Hid (∀ i b, l[i]? = some b → (cPred Z) w2 b ((xs.drop (i * 4)).take 4)) := hide fun i b hi => HC.out _ _ _ _ (Kp.of_fq HF.out H.out (by decide)) (HOLD.out i b hi)
    obtain ⟨kv, vv, rfl, hv⟩ := hv
    have HV := hide ((⟨Strs.mono hv.1 fun g hg => HZ.out g (by simpa [New] using hg), Moneys.mono hv.2 fun g hg => HZ.out g (by simpa [New] using hg)⟩ : Strs Z w2 a.kinds kv ∧ Moneys Z w2 a.values vv))
    clear hv
    clear he ho hR hF CR HS HROW HOLD H
    go_wp2_with (at_builtin; go_must (refine wpList_append_two _ rfl _ _ 24 rfl 0 92 iM _ 4 72 Tryz.underlying24 hiM zM0 zM1 zM2 rfl (by decide) _ _ _ rfl (HROW2.out.1.alloc _) ⟨w2.heap.size, 0, none⟩ 1 [.string ⟨a.name.toArray⟩, .int .i64 a.sort, kv, vv] rfl rfl (news_at rfl) (by intro u hu; simp only [List.mem_cons, List.not_mem_nil, or_false] at hu; rcases hu with rfl | rfl | rfl | rfl <;> first | rfl | exact rows_one HV.out.1 | exact rows_one HV.out.2) (by unfold maxLen; omega) (by omega) (Nat.zero_le _) ?_))
    intro g cap w4 hown hg
    obtain ⟨p1, p2, p3⟩ := put_behind (a := a) HR.out rfl HROW2.out HOLD2.out (⟨kv, vv, rfl, HV.out⟩) rfl HZ2.out HC.out (by decide) HZR.out hown hg
    have P1 := hide p1
    have P2 := hide p2
    have P3 := hide ((HF.out.fg _).trans p3)
    clear p1 p2 p3 hown hg HROW2 HOLD2 HR HF
    go_wp2_with fail
    go_ret
    exact .of_ok HO.out P1.out P2.out P3.out

set_option maxRecDepth 100000 in
set_option maxHeartbeats 1600000 in
theorem add_class_class (readM : M (List Bytes)) (CR : ∀ s w, Rd R L N s st w → Calls Tryz.prog 79 #[.pointer (some ⟨R, 0, none⟩)] w (Ends R L N st w (Strs (New w)) (readM s)))
    (Z : Nat → Prop) (l : List (List Bytes)) (tv : Value) (most : Int) (hl : l.length ≤ 70000) (hT : Rows Z 22 1 (cClass Z) w l tv) (hz : ∀ g, w.heap.size ≤ g → Z g) (hzR : ∀ g, Z g → R < g)
    (h : Rd R L N s st w) (o : Out (List Bytes)) (ho : addM l.length most readM s = o) :
    Calls Tryz.prog 78 #[.pointer (some ⟨R, 0, none⟩), tv, .int .i64 most, .func (.func 79) #[.pointer (some ⟨R, 0, none⟩)] #[]] w
      (EndsA R L N st w tv.ownBlock (fun w' a v => Rows Z 22 1 (cClass Z) w' (l ++ [a]) v) o) := by
  obtain ⟨iM, hiM, zM0, zM1, zM2⟩ := info_parts' info_class
  have HO := hide (set_go ho)
  have H := hide h
  obtain ⟨xs, hrow, hold⟩ := hT
  have HROW := hide hrow
  have HOLD := hide hold
  have HZ := hide hz
  have HZR := hide hzR
  have CR := hide CR
  obtain ⟨ta, tc, rfl⟩ := slice_form hrow.1
  have c3 := h.c3
  have f3 := h.frz 3
  have hlt := h.lt
  clear h ho hrow hold hz hzR
  generalize hfl : (s.full || decide (most ≤ (l.length : Int))) = fl at HO
  have HS := hide (H.out.setFull fl)
  cases hsf : s.full with
  | true =>
    rw [hsf] at c3
    have hb : true = fl := by rw [hsf] at hfl; simpa using hfl
    subst hb
    clear hsf hfl
    go_enter Tryz.func78, Tryz.ntmps78
    go_wp2_with fail
    refine (CR.out _ _ HS.out).mono ?_
    intro e w2 he
    rcases he.split with ⟨a, t, v, ho, rfl, hv, hR, hF⟩ | ⟨c, m, ho, rfl, hF⟩
    rotate_left 1
    · exact on_panic rfl (.of_bad (ho.symm.trans HO.out) (((Fq.refl R w).set 3 _).trans hF))
    have HO := hide (ho.symm.trans HO.out)
    have HR := hide hR
    have HF := hide (((Fq.refl R w).set 3 _).trans hF)
    have HZ2 : Hid (∀ g, w2.heap.size ≤ g → Z g) := hide fun g hg => HZ.out g (Nat.le_trans HF.out.size hg)
    have HROW2 := hide (HROW.out.keep (Kp.of_fq (T := [22]) HF.out H.out (by decide)) (by decide))
    have HC : Hid (∀ w w' b ys, Kp inner Z w w' → (cClass Z) w b ys → (cClass Z) w' b ys) := hide (fun _ _ _ _ hk h => h.keep hk)
    have HOLD2 : Hid (∀ i b, l[i]? = some b → (cClass Z) w2 b ((xs.drop (i * 1)).take 1)) := hide fun i b hi => HC.out _ _ _ _ (Kp.of_fq HF.out H.out (by decide)) (HOLD.out i b hi)
    obtain ⟨pa, pc, rfl⟩ := rows_form hv
    have HV := hide (Strs.mono hv fun g hg => HZ.out g (by simpa [New] using hg))
    clear hv
    clear he ho hR hF CR HS HROW HOLD H
    go_wp2_with (at_builtin; go_must (refine wpList_append_two _ rfl _ _ 25 rfl 0 22 iM _ 1 24 Tryz.underlying25 hiM zM0 zM1 zM2 rfl (by decide) _ _ _ rfl (HROW2.out.1.alloc _) ⟨w2.heap.size, 0, none⟩ 1 [.slice pa a.length pc] rfl rfl (news_at rfl) (by intro u hu; simp only [List.mem_cons, List.not_mem_nil, or_false] at hu; rcases hu with rfl <;> first | rfl | exact rows_one HV.out) (by unfold maxLen; omega) (by omega) (Nat.zero_le _) ?_))
    intro g cap w4 hown hg
    obtain ⟨p1, p2, p3⟩ := put_behind (a := a) HR.out rfl HROW2.out HOLD2.out (⟨_, rfl, HV.out⟩) rfl HZ2.out HC.out (by decide) HZR.out hown hg
    have P1 := hide p1
    have P2 := hide p2
    have P3 := hide ((HF.out.fg _).trans p3)
    clear p1 p2 p3 hown hg HROW2 HOLD2 HR HF
    go_wp2_with fail
    go_ret
    exact .of_ok HO.out P1.out P2.out P3.out
  | false =>
    rw [hsf] at c3
    have hb : (decide (most ≤ (l.length : Int))) = fl := by rw [hsf] at hfl; simpa using hfl
    clear hsf hfl
    go_enter Tryz.func78, Tryz.ntmps78
    go_wp2_with fail
    refine (CR.out _ _ HS.out).mono ?_
    intro e w2 he
    rcases he.split with ⟨a, t, v, ho, rfl, hv, hR, hF⟩ | ⟨c, m, ho, rfl, hF⟩
    rotate_left 1
    · exact on_panic rfl (.of_bad (ho.symm.trans HO.out) (((Fq.refl R w).set 3 _).trans hF))
    have HO := hide (ho.symm.trans HO.out)
    have HR := hide hR
    have HF := hide (((Fq.refl R w).set 3 _).trans hF)
    have HZ2 : Hid (∀ g, w2.heap.size ≤ g → Z g) := hide fun g hg => HZ.out g (Nat.le_trans HF.out.size hg)
    have HROW2 := hide (HROW.out.keep (Kp.of_fq (T := [22]) HF.out H.out (by decide)) (by decide))
    have HC : Hid (∀ w w' b ys, Kp inner Z w w' → (cClass Z) w b ys → (cClass Z) w' b ys) := hide (fun _ _ _ _ hk h => h.keep hk)
    have HOLD2 : Hid (∀ i b, l[i]? = some b → (cClass Z) w2 b ((xs.drop (i * 1)).take 1)) := hide fun i b hi => HC.out _ _ _ _ (Kp.of_fq HF.out H.out (by decide)) (HOLD.out i b hi)
    obtain ⟨pa, pc, rfl⟩ := rows_form hv
    have HV := hide (Strs.mono hv fun g hg => HZ.out g (by simpa [New] using hg))
    clear hv
    clear he ho hR hF CR HS HROW HOLD H
    go_wp2_with (at_builtin; go_must (refine wpList_append_two _ rfl _ _ 25 rfl 0 22 iM _ 1 24 Tryz.underlying25 hiM zM0 zM1 zM2 rfl (by decide) _ _ _ rfl (HROW2.out.1.alloc _) ⟨w2.heap.size, 0, none⟩ 1 [.slice pa a.length pc] rfl rfl (news_at rfl) (by intro u hu; simp only [List.mem_cons, List.not_mem_nil, or_false] at hu; rcases hu with rfl <;> first | rfl | exact rows_one HV.out) (by unfold maxLen; omega) (by omega) (Nat.zero_le _) ?_))
    intro g cap w4 hown hg
    obtain ⟨p1, p2, p3⟩ := put_behind (a := a) HR.out rfl HROW2.out HOLD2.out (⟨_, rfl, HV.out⟩) rfl HZ2.out HC.out (by decide) HZR.out hown hg
    have P1 := hide p1
    have P2 := hide p2
    have P3 := hide ((HF.out.fg _).trans p3)
    clear p1 p2 p3 hown hg HROW2 HOLD2 HR HF
    go_wp2_with fail
    go_ret
    exact .of_ok HO.out P1.out P2.out P3.out

set_option maxRecDepth 100000 in
set_option maxHeartbeats 1600000 in
theorem add_source_source (readM : M (Bytes × Int)) (CR : ∀ s w, Rd R L N s st w → Calls Tryz.prog 81 #[.pointer (some ⟨R, 0, none⟩)] w (Ends R L N st w vSrc (readM s)))
    (Z : Nat → Prop) (l : List (Bytes × Int)) (tv : Value) (most : Int) (hl : l.length ≤ 70000) (hT : Rows Z 126 2 cSrc w l tv) (hz : ∀ g, w.heap.size ≤ g → Z g) (hzR : ∀ g, Z g → R < g)
    (h : Rd R L N s st w) (o : Out (Bytes × Int)) (ho : addM l.length most readM s = o) :
    Calls Tryz.prog 80 #[.pointer (some ⟨R, 0, none⟩), tv, .int .i64 most, .func (.func 81) #[.pointer (some ⟨R, 0, none⟩)] #[]] w
      (EndsA R L N st w tv.ownBlock (fun w' a v => Rows Z 126 2 cSrc w' (l ++ [a]) v) o) := by
  obtain ⟨iM, hiM, zM0, zM1, zM2⟩ := info_parts' info_source
  have HO := hide (set_go ho)
  have H := hide h
  obtain ⟨xs, hrow, hold⟩ := hT
  have HROW := hide hrow
  have HOLD := hide hold
  have HZ := hide hz
  have HZR := hide hzR
  have CR := hide CR
  obtain ⟨ta, tc, rfl⟩ := slice_form hrow.1
  have c3 := h.c3
  have f3 := h.frz 3
  have hlt := h.lt
  clear h ho hrow hold hz hzR
  generalize hfl : (s.full || decide (most ≤ (l.length : Int))) = fl at HO
  have HS := hide (H.out.setFull fl)
  cases hsf : s.full with
  | true =>
    rw [hsf] at c3
    have hb : true = fl := by rw [hsf] at hfl; simpa using hfl
    subst hb
    clear hsf hfl
    go_enter Tryz.func80, Tryz.ntmps80
    go_wp2_with fail
    refine (CR.out _ _ HS.out).mono ?_
    intro e w2 he
    rcases he.split with ⟨a, t, v, ho, rfl, hv, hR, hF⟩ | ⟨c, m, ho, rfl, hF⟩
    rotate_left 1
    · exact on_panic rfl (.of_bad (ho.symm.trans HO.out) (((Fq.refl R w).set 3 _).trans hF))
    have HO := hide (ho.symm.trans HO.out)
    have HR := hide hR
    have HF := hide (((Fq.refl R w).set 3 _).trans hF)
    have HZ2 : Hid (∀ g, w2.heap.size ≤ g → Z g) := hide fun g hg => HZ.out g (Nat.le_trans HF.out.size hg)
    have HROW2 := hide (HROW.out.keep (Kp.of_fq (T := [126]) HF.out H.out (by decide)) (by decide))
    have HC : Hid (∀ w w' b ys, Kp [] Z w w' → cSrc w b ys → cSrc w' b ys) := hide (fun _ _ _ _ _ h => h)
    have HOLD2 : Hid (∀ i b, l[i]? = some b → cSrc w2 b ((xs.drop (i * 2)).take 2)) := hide fun i b hi => HC.out _ _ _ _ (Kp.of_fq HF.out H.out (by decide)) (HOLD.out i b hi)
    cases hv
    clear he ho hR hF CR HS HROW HOLD H
    go_wp2_with (at_builtin; go_must (refine wpList_append_two _ rfl _ _ 26 rfl 0 126 iM _ 2 24 Tryz.underlying26 hiM zM0 zM1 zM2 rfl (by decide) _ _ _ rfl (HROW2.out.1.alloc _) ⟨w2.heap.size, 0, none⟩ 1 [.string ⟨a.1.toArray⟩, .int .i64 a.2] rfl rfl (news_at rfl) (by simp [Value.oneCell']) (by unfold maxLen; omega) (by omega) (Nat.zero_le _) ?_))
    intro g cap w4 hown hg
    obtain ⟨p1, p2, p3⟩ := put_behind (a := a) HR.out rfl HROW2.out HOLD2.out (rfl) rfl HZ2.out HC.out (by decide) HZR.out hown hg
    have P1 := hide p1
    have P2 := hide p2
    have P3 := hide ((HF.out.fg _).trans p3)
    clear p1 p2 p3 hown hg HROW2 HOLD2 HR HF
    go_wp2_with fail
    go_ret
    exact .of_ok HO.out P1.out P2.out P3.out
  | false =>
    rw [hsf] at c3
    have hb : (decide (most ≤ (l.length : Int))) = fl := by rw [hsf] at hfl; simpa using hfl
    clear hsf hfl
    go_enter Tryz.func80, Tryz.ntmps80
    go_wp2_with fail
    refine (CR.out _ _ HS.out).mono ?_
    intro e w2 he
    rcases he.split with ⟨a, t, v, ho, rfl, hv, hR, hF⟩ | ⟨c, m, ho, rfl, hF⟩
    rotate_left 1
    · exact on_panic rfl (.of_bad (ho.symm.trans HO.out) (((Fq.refl R w).set 3 _).trans hF))
    have HO := hide (ho.symm.trans HO.out)
    have HR := hide hR
    have HF := hide (((Fq.refl R w).set 3 _).trans hF)
    have HZ2 : Hid (∀ g, w2.heap.size ≤ g → Z g) := hide fun g hg => HZ.out g (Nat.le_trans HF.out.size hg)
    have HROW2 := hide (HROW.out.keep (Kp.of_fq (T := [126]) HF.out H.out (by decide)) (by decide))
    have HC : Hid (∀ w w' b ys, Kp [] Z w w' → cSrc w b ys → cSrc w' b ys) := hide (fun _ _ _ _ _ h => h)
    have HOLD2 : Hid (∀ i b, l[i]? = some b → cSrc w2 b ((xs.drop (i * 2)).take 2)) := hide fun i b hi => HC.out _ _ _ _ (Kp.of_fq HF.out H.out (by decide)) (HOLD.out i b hi)
    cases hv
    clear he ho hR hF CR HS HROW HOLD H
    go_wp2_with (at_builtin; go_must (refine wpList_append_two _ rfl _ _ 26 rfl 0 126 iM _ 2 24 Tryz.underlying26 hiM zM0 zM1 zM2 rfl (by decide) _ _ _ rfl (HROW2.out.1.alloc _) ⟨w2.heap.size, 0, none⟩ 1 [.string ⟨a.1.toArray⟩, .int .i64 a.2] rfl rfl (news_at rfl) (by simp [Value.oneCell']) (by unfold maxLen; omega) (by omega) (Nat.zero_le _) ?_))
    intro g cap w4 hown hg
    obtain ⟨p1, p2, p3⟩ := put_behind (a := a) HR.out rfl HROW2.out HOLD2.out (rfl) rfl HZ2.out HC.out (by decide) HZR.out hown hg
    have P1 := hide p1
    have P2 := hide p2
    have P3 := hide ((HF.out.fg _).trans p3)
    clear p1 p2 p3 hown hg HROW2 HOLD2 HR HF
    go_wp2_with fail
    go_ret
    exact .of_ok HO.out P1.out P2.out P3.out

set_option maxRecDepth 100000 in
set_option maxHeartbeats 1600000 in
theorem add_rule_rule (readM : M RuleM) (CR : ∀ s w, Rd R L N s st w → Calls Tryz.prog 83 #[.pointer (some ⟨R, 0, none⟩)] w (Ends R L N st w (vRule (New w)) (readM s)))
    (Z : Nat → Prop) (l : List RuleM) (tv : Value) (most : Int) (hl : l.length ≤ 70000) (hT : Rows Z 100 11 (cRule Z) w l tv) (hz : ∀ g, w.heap.size ≤ g → Z g) (hzR : ∀ g, Z g → R < g)
    (h : Rd R L N s st w) (o : Out RuleM) (ho : addM l.length most readM s = o) :
    Calls Tryz.prog 82 #[.pointer (some ⟨R, 0, none⟩), tv, .int .i64 most, .func (.func 83) #[.pointer (some ⟨R, 0, none⟩)] #[]] w
      (EndsA R L N st w tv.ownBlock (fun w' a v => Rows Z 100 11 (cRule Z) w' (l ++ [a]) v) o) := by
  obtain ⟨iM, hiM, zM0, zM1, zM2⟩ := info_parts' info_rule
  have HO := hide (set_go ho)
  have H := hide h
  obtain ⟨xs, hrow, hold⟩ := hT
  have HROW := hide hrow
  have HOLD := hide hold
  have HZ := hide hz
  have HZR := hide hzR
  have CR := hide CR
  obtain ⟨ta, tc, rfl⟩ := slice_form hrow.1
  have c3 := h.c3
  have f3 := h.frz 3
  have hlt := h.lt
  clear h ho hrow hold hz hzR
  generalize hfl : (s.full || decide (most ≤ (l.length : Int))) = fl at HO
  have HS := hide (H.out.setFull fl)
  cases hsf : s.full with
  | true =>
    rw [hsf] at c3
    have hb : true = fl := by rw [hsf] at hfl; simpa using hfl
    subst hb
    clear hsf hfl
    go_enter Tryz.func82, Tryz.ntmps82
    go_wp2_with fail
    refine (CR.out _ _ HS.out).mono ?_
    intro e w2 he
    rcases he.split with ⟨a, t, v, ho, rfl, hv, hR, hF⟩ | ⟨c, m, ho, rfl, hF⟩
    rotate_left 1
    · exact on_panic rfl (.of_bad (ho.symm.trans HO.out) (((Fq.refl R w).set 3 _).trans hF))
    have HO := hide (ho.symm.trans HO.out)
    have HR := hide hR
    have HF := hide (((Fq.refl R w).set 3 _).trans hF)
    have HZ2 : Hid (∀ g, w2.heap.size ≤ g → Z g) := hide fun g hg => HZ.out g (Nat.le_trans HF.out.size hg)
    have HROW2 := hide (HROW.out.keep (Kp.of_fq (T := [100]) HF.out H.out (by decide)) (by decide))
    have HC : Hid (∀ w w' b ys, Kp inner Z w w' → (cRule Z) w b ys → (cRule Z) w' b ys) := hide (fun _ _ _ _ hk h => h.keep hk)
    have HOLD2 : Hid (∀ i b, l[i]? = some b → (cRule Z) w2 b ((xs.drop (i * 11)).take 11)) := hide fun i b hi => HC.out _ _ _ _ (Kp.of_fq HF.out H.out (by decide)) (HOLD.out i b hi)
    obtain ⟨bv, av, rfl, hv⟩ := hv
    have HV := hide ((⟨Prems.mono hv.1 fun g hg => HZ.out g (by simpa [New] using hg), Strs.mono hv.2 fun g hg => HZ.out g (by simpa [New] using hg)⟩ : Prems Z w2 a.body bv ∧ Strs Z w2 a.head.args av))
    clear hv
    clear he ho hR hF CR HS HROW HOLD H
    go_wp2_with (at_builtin; go_must (refine wpList_append_two _ rfl _ _ 27 rfl 0 100 iM _ 11 144 Tryz.underlying27 hiM zM0 zM1 zM2 rfl (by decide) _ _ _ rfl (HROW2.out.1.alloc _) ⟨w2.heap.size, 0, none⟩ 1 [.string ⟨a.name.toArray⟩, .string ⟨a.source.toArray⟩, .int .i64 a.day, .int .i64 a.till, bv, .int .i64 a.arrow, .bool a.head.neg, .string ⟨a.head.pred.toArray⟩, av, .bool a.head.hasValue, .int .i64 a.head.value] rfl rfl (news_at rfl) (by intro u hu; simp only [List.mem_cons, List.not_mem_nil, or_false] at hu; rcases hu with rfl | rfl | rfl | rfl | rfl | rfl | rfl | rfl | rfl | rfl | rfl <;> first | rfl | exact rows_one HV.out.1 | exact rows_one HV.out.2) (by unfold maxLen; omega) (by omega) (Nat.zero_le _) ?_))
    intro g cap w4 hown hg
    obtain ⟨p1, p2, p3⟩ := put_behind (a := a) HR.out rfl HROW2.out HOLD2.out (⟨bv, av, rfl, HV.out⟩) rfl HZ2.out HC.out (by decide) HZR.out hown hg
    have P1 := hide p1
    have P2 := hide p2
    have P3 := hide ((HF.out.fg _).trans p3)
    clear p1 p2 p3 hown hg HROW2 HOLD2 HR HF
    go_wp2_with fail
    go_ret
    exact .of_ok HO.out P1.out P2.out P3.out
  | false =>
    rw [hsf] at c3
    have hb : (decide (most ≤ (l.length : Int))) = fl := by rw [hsf] at hfl; simpa using hfl
    clear hsf hfl
    go_enter Tryz.func82, Tryz.ntmps82
    go_wp2_with fail
    refine (CR.out _ _ HS.out).mono ?_
    intro e w2 he
    rcases he.split with ⟨a, t, v, ho, rfl, hv, hR, hF⟩ | ⟨c, m, ho, rfl, hF⟩
    rotate_left 1
    · exact on_panic rfl (.of_bad (ho.symm.trans HO.out) (((Fq.refl R w).set 3 _).trans hF))
    have HO := hide (ho.symm.trans HO.out)
    have HR := hide hR
    have HF := hide (((Fq.refl R w).set 3 _).trans hF)
    have HZ2 : Hid (∀ g, w2.heap.size ≤ g → Z g) := hide fun g hg => HZ.out g (Nat.le_trans HF.out.size hg)
    have HROW2 := hide (HROW.out.keep (Kp.of_fq (T := [100]) HF.out H.out (by decide)) (by decide))
    have HC : Hid (∀ w w' b ys, Kp inner Z w w' → (cRule Z) w b ys → (cRule Z) w' b ys) := hide (fun _ _ _ _ hk h => h.keep hk)
    have HOLD2 : Hid (∀ i b, l[i]? = some b → (cRule Z) w2 b ((xs.drop (i * 11)).take 11)) := hide fun i b hi => HC.out _ _ _ _ (Kp.of_fq HF.out H.out (by decide)) (HOLD.out i b hi)
    obtain ⟨bv, av, rfl, hv⟩ := hv
    have HV := hide ((⟨Prems.mono hv.1 fun g hg => HZ.out g (by simpa [New] using hg), Strs.mono hv.2 fun g hg => HZ.out g (by simpa [New] using hg)⟩ : Prems Z w2 a.body bv ∧ Strs Z w2 a.head.args av))
    clear hv
    clear he ho hR hF CR HS HROW HOLD H
    go_wp2_with (at_builtin; go_must (refine wpList_append_two _ rfl _ _ 27 rfl 0 100 iM _ 11 144 Tryz.underlying27 hiM zM0 zM1 zM2 rfl (by decide) _ _ _ rfl (HROW2.out.1.alloc _) ⟨w2.heap.size, 0, none⟩ 1 [.string ⟨a.name.toArray⟩, .string ⟨a.source.toArray⟩, .int .i64 a.day, .int .i64 a.till, bv, .int .i64 a.arrow, .bool a.head.neg, .string ⟨a.head.pred.toArray⟩, av, .bool a.head.hasValue, .int .i64 a.head.value] rfl rfl (news_at rfl) (by intro u hu; simp only [List.mem_cons, List.not_mem_nil, or_false] at hu; rcases hu with rfl | rfl | rfl | rfl | rfl | rfl | rfl | rfl | rfl | rfl | rfl <;> first | rfl | exact rows_one HV.out.1 | exact rows_one HV.out.2) (by unfold maxLen; omega) (by omega) (Nat.zero_le _) ?_))
    intro g cap w4 hown hg
    obtain ⟨p1, p2, p3⟩ := put_behind (a := a) HR.out rfl HROW2.out HOLD2.out (⟨bv, av, rfl, HV.out⟩) rfl HZ2.out HC.out (by decide) HZR.out hown hg
    have P1 := hide p1
    have P2 := hide p2
    have P3 := hide ((HF.out.fg _).trans p3)
    clear p1 p2 p3 hown hg HROW2 HOLD2 HR HF
    go_wp2_with fail
    go_ret
    exact .of_ok HO.out P1.out P2.out P3.out

set_option maxRecDepth 100000 in
set_option maxHeartbeats 1600000 in
theorem add_except_exception (readM : M (Bytes × Bytes)) (CR : ∀ s w, Rd R L N s st w → Calls Tryz.prog 85 #[.pointer (some ⟨R, 0, none⟩)] w (Ends R L N st w vM (readM s)))
    (Z : Nat → Prop) (l : List (Bytes × Bytes)) (tv : Value) (most : Int) (hl : l.length ≤ 70000) (hT : Rows Z 128 2 cM w l tv) (hz : ∀ g, w.heap.size ≤ g → Z g) (hzR : ∀ g, Z g → R < g)
    (h : Rd R L N s st w) (o : Out (Bytes × Bytes)) (ho : addM l.length most readM s = o) :
    Calls Tryz.prog 84 #[.pointer (some ⟨R, 0, none⟩), tv, .int .i64 most, .func (.func 85) #[.pointer (some ⟨R, 0, none⟩)] #[]] w
      (EndsA R L N st w tv.ownBlock (fun w' a v => Rows Z 128 2 cM w' (l ++ [a]) v) o) := by
  obtain ⟨iM, hiM, zM0, zM1, zM2⟩ := info_parts' info_except
  have HO := hide (set_go ho)
  have H := hide h
  obtain ⟨xs, hrow, hold⟩ := hT
  have HROW := hide hrow
  have HOLD := hide hold
  have HZ := hide hz
  have HZR := hide hzR
  have CR := hide CR
  obtain ⟨ta, tc, rfl⟩ := slice_form hrow.1
  have c3 := h.c3
  have f3 := h.frz 3
  have hlt := h.lt
  clear h ho hrow hold hz hzR
  generalize hfl : (s.full || decide (most ≤ (l.length : Int))) = fl at HO
  have HS := hide (H.out.setFull fl)
  cases hsf : s.full with
  | true =>
    rw [hsf] at c3
    have hb : true = fl := by rw [hsf] at hfl; simpa using hfl
    subst hb
    clear hsf hfl
    go_enter Tryz.func84, Tryz.ntmps84
    go_wp2_with fail
    refine (CR.out _ _ HS.out).mono ?_
    intro e w2 he
    rcases he.split with ⟨a, t, v, ho, rfl, hv, hR, hF⟩ | ⟨c, m, ho, rfl, hF⟩
    rotate_left 1
    · exact on_panic rfl (.of_bad (ho.symm.trans HO.out) (((Fq.refl R w).set 3 _).trans hF))
    have HO := hide (ho.symm.trans HO.out)
    have HR := hide hR
    have HF := hide (((Fq.refl R w).set 3 _).trans hF)
    have HZ2 : Hid (∀ g, w2.heap.size ≤ g → Z g) := hide fun g hg => HZ.out g (Nat.le_trans HF.out.size hg)
    have HROW2 := hide (HROW.out.keep (Kp.of_fq (T := [128]) HF.out H.out (by decide)) (by decide))
    have HC : Hid (∀ w w' b ys, Kp [] Z w w' → cM w b ys → cM w' b ys) := hide (fun _ _ _ _ _ h => h)
    have HOLD2 : Hid (∀ i b, l[i]? = some b → cM w2 b ((xs.drop (i * 2)).take 2)) := hide fun i b hi => HC.out _ _ _ _ (Kp.of_fq HF.out H.out (by decide)) (HOLD.out i b hi)
    cases hv
    clear he ho hR hF CR HS HROW HOLD H
    go_wp2_with (at_builtin; go_must (refine wpList_append_two _ rfl _ _ 28 rfl 0 128 iM _ 2 32 Tryz.underlying28 hiM zM0 zM1 zM2 rfl (by decide) _ _ _ rfl (HROW2.out.1.alloc _) ⟨w2.heap.size, 0, none⟩ 1 [.string ⟨a.1.toArray⟩, .string ⟨a.2.toArray⟩] rfl rfl (news_at rfl) (by simp [Value.oneCell']) (by unfold maxLen; omega) (by omega) (Nat.zero_le _) ?_))
    intro g cap w4 hown hg
    obtain ⟨p1, p2, p3⟩ := put_behind (a := a) HR.out rfl HROW2.out HOLD2.out (rfl) rfl HZ2.out HC.out (by decide) HZR.out hown hg
    have P1 := hide p1
    have P2 := hide p2
    have P3 := hide ((HF.out.fg _).trans p3)
    clear p1 p2 p3 hown hg HROW2 HOLD2 HR HF
    go_wp2_with fail
    go_ret
    exact .of_ok HO.out P1.out P2.out P3.out
  | false =>
    rw [hsf] at c3
    have hb : (decide (most ≤ (l.length : Int))) = fl := by rw [hsf] at hfl; simpa using hfl
    clear hsf hfl
    go_enter Tryz.func84, Tryz.ntmps84
    go_wp2_with fail
    refine (CR.out _ _ HS.out).mono ?_
    intro e w2 he
    rcases he.split with ⟨a, t, v, ho, rfl, hv, hR, hF⟩ | ⟨c, m, ho, rfl, hF⟩
    rotate_left 1
    · exact on_panic rfl (.of_bad (ho.symm.trans HO.out) (((Fq.refl R w).set 3 _).trans hF))
    have HO := hide (ho.symm.trans HO.out)
    have HR := hide hR
    have HF := hide (((Fq.refl R w).set 3 _).trans hF)
    have HZ2 : Hid (∀ g, w2.heap.size ≤ g → Z g) := hide fun g hg => HZ.out g (Nat.le_trans HF.out.size hg)
    have HROW2 := hide (HROW.out.keep (Kp.of_fq (T := [128]) HF.out H.out (by decide)) (by decide))
    have HC : Hid (∀ w w' b ys, Kp [] Z w w' → cM w b ys → cM w' b ys) := hide (fun _ _ _ _ _ h => h)
    have HOLD2 : Hid (∀ i b, l[i]? = some b → cM w2 b ((xs.drop (i * 2)).take 2)) := hide fun i b hi => HC.out _ _ _ _ (Kp.of_fq HF.out H.out (by decide)) (HOLD.out i b hi)
    cases hv
    clear he ho hR hF CR HS HROW HOLD H
    go_wp2_with (at_builtin; go_must (refine wpList_append_two _ rfl _ _ 28 rfl 0 128 iM _ 2 32 Tryz.underlying28 hiM zM0 zM1 zM2 rfl (by decide) _ _ _ rfl (HROW2.out.1.alloc _) ⟨w2.heap.size, 0, none⟩ 1 [.string ⟨a.1.toArray⟩, .string ⟨a.2.toArray⟩] rfl rfl (news_at rfl) (by simp [Value.oneCell']) (by unfold maxLen; omega) (by omega) (Nat.zero_le _) ?_))
    intro g cap w4 hown hg
    obtain ⟨p1, p2, p3⟩ := put_behind (a := a) HR.out rfl HROW2.out HOLD2.out (rfl) rfl HZ2.out HC.out (by decide) HZR.out hown hg
    have P1 := hide p1
    have P2 := hide p2
    have P3 := hide ((HF.out.fg _).trans p3)
    clear p1 p2 p3 hown hg HROW2 HOLD2 HR HF
    go_wp2_with fail
    go_ret
    exact .of_ok HO.out P1.out P2.out P3.out

set_option maxRecDepth 100000 in
set_option maxHeartbeats 1600000 in
theorem add_total_total (readM : M TotalM) (CR : ∀ s w, Rd R L N s st w → Calls Tryz.prog 87 #[.pointer (some ⟨R, 0, none⟩)] w (Ends R L N st w (vTotal (New w)) (readM s)))
    (Z : Nat → Prop) (l : List TotalM) (tv : Value) (most : Int) (hl : l.length ≤ 70000) (hT : Rows Z 111 5 (cTotal Z) w l tv) (hz : ∀ g, w.heap.size ≤ g → Z g) (hzR : ∀ g, Z g → R < g)
    (h : Rd R L N s st w) (o : Out TotalM) (ho : addM l.length most readM s = o) :
    Calls Tryz.prog 86 #[.pointer (some ⟨R, 0, none⟩), tv, .int .i64 most, .func (.func 87) #[.pointer (some ⟨R, 0, none⟩)] #[]] w
      (EndsA R L N st w tv.ownBlock (fun w' a v => Rows Z 111 5 (cTotal Z) w' (l ++ [a]) v) o) := by
  obtain ⟨iM, hiM, zM0, zM1, zM2⟩ := info_parts' info_total
  have HO := hide (set_go ho)
  have H := hide h
  obtain ⟨xs, hrow, hold⟩ := hT
  have HROW := hide hrow
  have HOLD := hide hold
  have HZ := hide hz
  have HZR := hide hzR
  have CR := hide CR
  obtain ⟨ta, tc, rfl⟩ := slice_form hrow.1
  have c3 := h.c3
  have f3 := h.frz 3
  have hlt := h.lt
  clear h ho hrow hold hz hzR
  generalize hfl : (s.full || decide (most ≤ (l.length : Int))) = fl at HO
  have HS := hide (H.out.setFull fl)
  cases hsf : s.full with
  | true =>
    rw [hsf] at c3
    have hb : true = fl := by rw [hsf] at hfl; simpa using hfl
    subst hb
    clear hsf hfl
    go_enter Tryz.func86, Tryz.ntmps86
    go_wp2_with fail
    refine (CR.out _ _ HS.out).mono ?_
    intro e w2 he
    rcases he.split with ⟨a, t, v, ho, rfl, hv, hR, hF⟩ | ⟨c, m, ho, rfl, hF⟩
    rotate_left 1
    · exact on_panic rfl (.of_bad (ho.symm.trans HO.out) (((Fq.refl R w).set 3 _).trans hF))
    have HO := hide (ho.symm.trans HO.out)
    have HR := hide hR
    have HF := hide (((Fq.refl R w).set 3 _).trans hF)
    have HZ2 : Hid (∀ g, w2.heap.size ≤ g → Z g) := hide fun g hg => HZ.out g (Nat.le_trans HF.out.size hg)
    have HROW2 := hide (HROW.out.keep (Kp.of_fq (T := [111]) HF.out H.out (by decide)) (by decide))
    have HC : Hid (∀ w w' b ys, Kp inner Z w w' → (cTotal Z) w b ys → (cTotal Z) w' b ys) := hide (fun _ _ _ _ hk h => h.keep hk)
    have HOLD2 : Hid (∀ i b, l[i]? = some b → (cTotal Z) w2 b ((xs.drop (i * 5)).take 5)) := hide fun i b hi => HC.out _ _ _ _ (Kp.of_fq HF.out H.out (by decide)) (HOLD.out i b hi)
    obtain ⟨pv, rfl, hv⟩ := hv
    have HV := hide (Strs.mono hv fun g hg => HZ.out g (by simpa [New] using hg))
    clear hv
    clear he ho hR hF CR HS HROW HOLD H
    go_wp2_with (at_builtin; go_must (refine wpList_append_two _ rfl _ _ 29 rfl 0 111 iM _ 5 72 Tryz.underlying29 hiM zM0 zM1 zM2 rfl (by decide) _ _ _ rfl (HROW2.out.1.alloc _) ⟨w2.heap.size, 0, none⟩ 1 [.string ⟨a.name.toArray⟩, .string ⟨a.kind.toArray⟩, pv, .bool a.hasCap, .int .i64 a.cap] rfl rfl (news_at rfl) (by intro u hu; simp only [List.mem_cons, List.not_mem_nil, or_false] at hu; rcases hu with rfl | rfl | rfl | rfl | rfl <;> first | rfl | exact rows_one HV.out) (by unfold maxLen; omega) (by omega) (Nat.zero_le _) ?_))
    intro g cap w4 hown hg
    obtain ⟨p1, p2, p3⟩ := put_behind (a := a) HR.out rfl HROW2.out HOLD2.out (⟨pv, rfl, HV.out⟩) rfl HZ2.out HC.out (by decide) HZR.out hown hg
    have P1 := hide p1
    have P2 := hide p2
    have P3 := hide ((HF.out.fg _).trans p3)
    clear p1 p2 p3 hown hg HROW2 HOLD2 HR HF
    go_wp2_with fail
    go_ret
    exact .of_ok HO.out P1.out P2.out P3.out
  | false =>
    rw [hsf] at c3
    have hb : (decide (most ≤ (l.length : Int))) = fl := by rw [hsf] at hfl; simpa using hfl
    clear hsf hfl
    go_enter Tryz.func86, Tryz.ntmps86
    go_wp2_with fail
    refine (CR.out _ _ HS.out).mono ?_
    intro e w2 he
    rcases he.split with ⟨a, t, v, ho, rfl, hv, hR, hF⟩ | ⟨c, m, ho, rfl, hF⟩
    rotate_left 1
    · exact on_panic rfl (.of_bad (ho.symm.trans HO.out) (((Fq.refl R w).set 3 _).trans hF))
    have HO := hide (ho.symm.trans HO.out)
    have HR := hide hR
    have HF := hide (((Fq.refl R w).set 3 _).trans hF)
    have HZ2 : Hid (∀ g, w2.heap.size ≤ g → Z g) := hide fun g hg => HZ.out g (Nat.le_trans HF.out.size hg)
    have HROW2 := hide (HROW.out.keep (Kp.of_fq (T := [111]) HF.out H.out (by decide)) (by decide))
    have HC : Hid (∀ w w' b ys, Kp inner Z w w' → (cTotal Z) w b ys → (cTotal Z) w' b ys) := hide (fun _ _ _ _ hk h => h.keep hk)
    have HOLD2 : Hid (∀ i b, l[i]? = some b → (cTotal Z) w2 b ((xs.drop (i * 5)).take 5)) := hide fun i b hi => HC.out _ _ _ _ (Kp.of_fq HF.out H.out (by decide)) (HOLD.out i b hi)
    obtain ⟨pv, rfl, hv⟩ := hv
    have HV := hide (Strs.mono hv fun g hg => HZ.out g (by simpa [New] using hg))
    clear hv
    clear he ho hR hF CR HS HROW HOLD H
    go_wp2_with (at_builtin; go_must (refine wpList_append_two _ rfl _ _ 29 rfl 0 111 iM _ 5 72 Tryz.underlying29 hiM zM0 zM1 zM2 rfl (by decide) _ _ _ rfl (HROW2.out.1.alloc _) ⟨w2.heap.size, 0, none⟩ 1 [.string ⟨a.name.toArray⟩, .string ⟨a.kind.toArray⟩, pv, .bool a.hasCap, .int .i64 a.cap] rfl rfl (news_at rfl) (by intro u hu; simp only [List.mem_cons, List.not_mem_nil, or_false] at hu; rcases hu with rfl | rfl | rfl | rfl | rfl <;> first | rfl | exact rows_one HV.out) (by unfold maxLen; omega) (by omega) (Nat.zero_le _) ?_))
    intro g cap w4 hown hg
    obtain ⟨p1, p2, p3⟩ := put_behind (a := a) HR.out rfl HROW2.out HOLD2.out (⟨pv, rfl, HV.out⟩) rfl HZ2.out HC.out (by decide) HZR.out hown hg
    have P1 := hide p1
    have P2 := hide p2
    have P3 := hide ((HF.out.fg _).trans p3)
    clear p1 p2 p3 hown hg HROW2 HOLD2 HR HF
    go_wp2_with fail
    go_ret
    exact .of_ok HO.out P1.out P2.out P3.out

end
end Go.Proofs.YthnjmfkiohgkkaaGreatDoor.Sy
