/- Kind, Member, Pred. -/
import Derived.Test.YtfnobccminhjpaaVars9
namespace Go.Proofs.Ytfnobccminhjpaa
open Go.RowKit Go.Shelf Go.Maps Go.WideMaps
set_option maxRecDepth 100000 in
set_option maxHeartbeats 3200000 in
theorem lookK_any {N : Nat} {w : World} {l : List Bytes} {a : Option Addr} {c : Nat} (h : RR N 1 cS w l (.slice a l.length c)) (hN : N ≤ w.heap.size) (hl : l.length ≤ 4096) (s : Bytes) (hs : s.length ≤ maxLen) :
    Calls Try.prog 41 #[.slice a l.length c, .func (.func 26) #[] #[], str s] w fun e w' => e = .returned (.tuple #[.int .i64 (posB (l.map id) s), .bool (decide (s ∈ l.map id))]) ∧ Below w.heap.size w w' := by
  have CN := hide (numK_any h hN hl)
  have HK := hide (key_mk hs)
  generalize l.map id = names at *
  unfold str
  clear h
  go_enter Try.func41, Try.ntmps41
  go_wp2_with fail
  refine CN.out.mono ?_
  rintro _ w1 ⟨rfl, ⟨n, D, hown, hNum, _⟩, hb⟩
  have HB := hide hb
  have HN := hide (hNum s)
  clear CN hb hNum
  go_wp2_with (at_lookup; go_must (refine wpList_lookup_own_ok_int _ rfl _ _ 68 rfl 9 3 .i64 law Try.underlying68 Try.underlying3 (Try.zeroValue3 _) w.heap.size n _ rfl hown _ _ rfl HK.out ?_); intro cc hat hwc)
  have hc : cc = posB names s := by
    have := hat.symm.trans HN.out.2
    injection this with e
    injection e
  have hh := HN.out.1
  subst hc
  clear hat hwc HN
  rw [hh]
  go_wp2_with fail
  simp [bodyPost, results, Try.results41, go_sem]
  exact HB.out
set_option maxRecDepth 100000 in
set_option maxHeartbeats 3200000 in
theorem kind_asks {S : StatM} {st : St9} {w : World} (h : SR w.heap.size w S st) (hl : S.kinds.length ≤ 4096) (s : Bytes) (hs : s.length ≤ maxLen) :
    Calls Try.prog 20 #[st.agg, str s] w fun e w' => e = .returned (.tuple #[.int .i64 (posB S.kinds s), .bool (decide (s ∈ S.kinds))]) ∧ Below w.heap.size w w' := by
  obtain ⟨tt, ht⟩ := h.title
  obtain ⟨a1, b1, f1, _, _⟩ := h.kinds.form
  obtain ⟨a2, b2, f2, _, _⟩ := h.members.form
  obtain ⟨a3, b3, f3, _, _⟩ := h.preds.form
  obtain ⟨a4, b4, f4, _, _⟩ := h.classes.form
  obtain ⟨a5, b5, f5, _, _⟩ := h.sources.form
  obtain ⟨a6, b6, f6, _, _⟩ := h.rules.form
  obtain ⟨a7, b7, f7, _, _⟩ := h.excepts.form
  obtain ⟨a8, b8, f8, _, _⟩ := h.totals.form
  obtain ⟨s0, s1, s2, s3, s4, s5, s6, s7, s8⟩ := st
  simp only at ht f1 f2 f3 f4 f5 f6 f7 f8
  subst ht f1 f2 f3 f4 f5 f6 f7 f8
  have hA : Below w.heap.size w (w.alloc (.cells #[.string tt, .slice a1 S.kinds.length b1, .slice a2 S.members.length b2, .slice a3 S.preds.length b3, .slice a4 S.classes.length b4, .slice a5 S.sources.length b5, .slice a6 S.rules.length b6, .slice a7 S.excepts.length b7, .slice a8 S.totals.length b8] 31)) := (Below.refl _ w).alloc (Nat.le_refl _) _
  have CL := hide (lookK_any (RR.keep h.kinds (w' := (w.alloc (.cells #[.string tt, .slice a1 S.kinds.length b1, .slice a2 S.members.length b2, .slice a3 S.preds.length b3, .slice a4 S.classes.length b4, .slice a5 S.sources.length b5, .slice a6 S.rules.length b6, .slice a7 S.excepts.length b7, .slice a8 S.totals.length b8] 31))) (fun g hg => hA.block g hg) (fun _ _ hx => hx)) hA.size hl s hs)
  have HA := hide hA
  have e1 : posB (S.kinds.map id) s = posB S.kinds s := by rw [List.map_id]
  have e2 : decide (s ∈ S.kinds.map id) = decide (s ∈ S.kinds) := by rw [List.map_id]
  rw [e1, e2] at CL
  generalize posB S.kinds s = n0 at *
  generalize decide (s ∈ S.kinds) = b0 at *
  unfold St9.agg str at *
  simp only at *
  clear h hA e1 e2
  go_enter Try.func20, Try.ntmps20
  go_wp2_with fail
  refine CL.out.mono ?_
  rintro _ w1 ⟨rfl, hb⟩
  have HB := hide (HA.out.trans (hb.mono HA.out.size))
  clear hb CL HA
  go_wp2_with fail
  simp [bodyPost, results, Try.results20, go_sem]
  exact HB.out
set_option maxRecDepth 100000 in
set_option maxHeartbeats 3200000 in
theorem lookM_any {N : Nat} {w : World} {l : List (Bytes × Bytes)} {a : Option Addr} {c : Nat} (h : RR N 2 cM w l (.slice a l.length c)) (hN : N ≤ w.heap.size) (hl : l.length ≤ 4096) (s : Bytes) (hs : s.length ≤ maxLen) :
    Calls Try.prog 42 #[.slice a l.length c, .func (.func 43) #[] #[], str s] w fun e w' => e = .returned (.tuple #[.int .i64 (posB (l.map (·.1)) s), .bool (decide (s ∈ l.map (·.1)))]) ∧ Below w.heap.size w w' := by
  have CN := hide (numM_any h hN hl)
  have HK := hide (key_mk hs)
  generalize l.map (·.1) = names at *
  unfold str
  clear h
  go_enter Try.func42, Try.ntmps42
  go_wp2_with fail
  refine CN.out.mono ?_
  rintro _ w1 ⟨rfl, ⟨n, D, hown, hNum, _⟩, hb⟩
  have HB := hide hb
  have HN := hide (hNum s)
  clear CN hb hNum
  go_wp2_with (at_lookup; go_must (refine wpList_lookup_own_ok_int _ rfl _ _ 68 rfl 9 3 .i64 law Try.underlying68 Try.underlying3 (Try.zeroValue3 _) w.heap.size n _ rfl hown _ _ rfl HK.out ?_); intro cc hat hwc)
  have hc : cc = posB names s := by
    have := hat.symm.trans HN.out.2
    injection this with e
    injection e
  have hh := HN.out.1
  subst hc
  clear hat hwc HN
  rw [hh]
  go_wp2_with fail
  simp [bodyPost, results, Try.results42, go_sem]
  exact HB.out
set_option maxRecDepth 100000 in
set_option maxHeartbeats 3200000 in
theorem member_asks {S : StatM} {st : St9} {w : World} (h : SR w.heap.size w S st) (hl : S.members.length ≤ 4096) (s : Bytes) (hs : s.length ≤ maxLen) :
    Calls Try.prog 21 #[st.agg, str s] w fun e w' => e = .returned (.tuple #[.int .i64 (posB S.ctx.people s), .bool (decide (s ∈ S.ctx.people))]) ∧ Below w.heap.size w w' := by
  obtain ⟨tt, ht⟩ := h.title
  obtain ⟨a1, b1, f1, _, _⟩ := h.kinds.form
  obtain ⟨a2, b2, f2, _, _⟩ := h.members.form
  obtain ⟨a3, b3, f3, _, _⟩ := h.preds.form
  obtain ⟨a4, b4, f4, _, _⟩ := h.classes.form
  obtain ⟨a5, b5, f5, _, _⟩ := h.sources.form
  obtain ⟨a6, b6, f6, _, _⟩ := h.rules.form
  obtain ⟨a7, b7, f7, _, _⟩ := h.excepts.form
  obtain ⟨a8, b8, f8, _, _⟩ := h.totals.form
  obtain ⟨s0, s1, s2, s3, s4, s5, s6, s7, s8⟩ := st
  simp only at ht f1 f2 f3 f4 f5 f6 f7 f8
  subst ht f1 f2 f3 f4 f5 f6 f7 f8
  have hA : Below w.heap.size w (w.alloc (.cells #[.string tt, .slice a1 S.kinds.length b1, .slice a2 S.members.length b2, .slice a3 S.preds.length b3, .slice a4 S.classes.length b4, .slice a5 S.sources.length b5, .slice a6 S.rules.length b6, .slice a7 S.excepts.length b7, .slice a8 S.totals.length b8] 31)) := (Below.refl _ w).alloc (Nat.le_refl _) _
  have CL := hide (lookM_any (RR.keep h.members (w' := (w.alloc (.cells #[.string tt, .slice a1 S.kinds.length b1, .slice a2 S.members.length b2, .slice a3 S.preds.length b3, .slice a4 S.classes.length b4, .slice a5 S.sources.length b5, .slice a6 S.rules.length b6, .slice a7 S.excepts.length b7, .slice a8 S.totals.length b8] 31))) (fun g hg => hA.block g hg) (fun _ _ hx => hx)) hA.size hl s hs)
  have HA := hide hA
  have e1 : posB (S.members.map (·.1)) s = posB S.ctx.people s := rfl
  have e2 : decide (s ∈ S.members.map (·.1)) = decide (s ∈ S.ctx.people) := rfl
  rw [e1, e2] at CL
  generalize posB S.ctx.people s = n0 at *
  generalize decide (s ∈ S.ctx.people) = b0 at *
  unfold St9.agg str at *
  simp only at *
  clear h hA e1 e2
  go_enter Try.func21, Try.ntmps21
  go_wp2_with fail
  refine CL.out.mono ?_
  rintro _ w1 ⟨rfl, hb⟩
  have HB := hide (HA.out.trans (hb.mono HA.out.size))
  clear hb CL HA
  go_wp2_with fail
  simp [bodyPost, results, Try.results21, go_sem]
  exact HB.out
set_option maxRecDepth 100000 in
set_option maxHeartbeats 3200000 in
theorem lookP_any {N : Nat} {w : World} {l : List PredM} {a : Option Addr} {c : Nat} (h : RR N 4 (cPred N) w l (.slice a l.length c)) (hN : N ≤ w.heap.size) (hl : l.length ≤ 4096) (s : Bytes) (hs : s.length ≤ maxLen) :
    Calls Try.prog 39 #[.slice a l.length c, .func (.func 40) #[] #[], str s] w fun e w' => e = .returned (.tuple #[.int .i64 (posB (l.map (·.name)) s), .bool (decide (s ∈ l.map (·.name)))]) ∧ Below w.heap.size w w' := by
  have CN := hide (numP_any h hN hl)
  have HK := hide (key_mk hs)
  generalize l.map (·.name) = names at *
  unfold str
  clear h
  go_enter Try.func39, Try.ntmps39
  go_wp2_with fail
  refine CN.out.mono ?_
  rintro _ w1 ⟨rfl, ⟨n, D, hown, hNum, _⟩, hb⟩
  have HB := hide hb
  have HN := hide (hNum s)
  clear CN hb hNum
  go_wp2_with (at_lookup; go_must (refine wpList_lookup_own_ok_int _ rfl _ _ 68 rfl 9 3 .i64 law Try.underlying68 Try.underlying3 (Try.zeroValue3 _) w.heap.size n _ rfl hown _ _ rfl HK.out ?_); intro cc hat hwc)
  have hc : cc = posB names s := by
    have := hat.symm.trans HN.out.2
    injection this with e
    injection e
  have hh := HN.out.1
  subst hc
  clear hat hwc HN
  rw [hh]
  go_wp2_with fail
  simp [bodyPost, results, Try.results39, go_sem]
  exact HB.out
set_option maxRecDepth 100000 in
set_option maxHeartbeats 3200000 in
theorem pred_asks {S : StatM} {st : St9} {w : World} (h : SR w.heap.size w S st) (hl : S.preds.length ≤ 4096) (s : Bytes) (hs : s.length ≤ maxLen) :
    Calls Try.prog 19 #[st.agg, str s] w fun e w' => e = .returned (.tuple #[.int .i64 (posB S.ctx.names s), .bool (decide (s ∈ S.ctx.names))]) ∧ Below w.heap.size w w' := by
  obtain ⟨tt, ht⟩ := h.title
  obtain ⟨a1, b1, f1, _, _⟩ := h.kinds.form
  obtain ⟨a2, b2, f2, _, _⟩ := h.members.form
  obtain ⟨a3, b3, f3, _, _⟩ := h.preds.form
  obtain ⟨a4, b4, f4, _, _⟩ := h.classes.form
  obtain ⟨a5, b5, f5, _, _⟩ := h.sources.form
  obtain ⟨a6, b6, f6, _, _⟩ := h.rules.form
  obtain ⟨a7, b7, f7, _, _⟩ := h.excepts.form
  obtain ⟨a8, b8, f8, _, _⟩ := h.totals.form
  obtain ⟨s0, s1, s2, s3, s4, s5, s6, s7, s8⟩ := st
  simp only at ht f1 f2 f3 f4 f5 f6 f7 f8
  subst ht f1 f2 f3 f4 f5 f6 f7 f8
  have hA : Below w.heap.size w (w.alloc (.cells #[.string tt, .slice a1 S.kinds.length b1, .slice a2 S.members.length b2, .slice a3 S.preds.length b3, .slice a4 S.classes.length b4, .slice a5 S.sources.length b5, .slice a6 S.rules.length b6, .slice a7 S.excepts.length b7, .slice a8 S.totals.length b8] 31)) := (Below.refl _ w).alloc (Nat.le_refl _) _
  have CL := hide (lookP_any (RR.keep h.preds (w' := (w.alloc (.cells #[.string tt, .slice a1 S.kinds.length b1, .slice a2 S.members.length b2, .slice a3 S.preds.length b3, .slice a4 S.classes.length b4, .slice a5 S.sources.length b5, .slice a6 S.rules.length b6, .slice a7 S.excepts.length b7, .slice a8 S.totals.length b8] 31))) (fun g hg => hA.block g hg) (fun _ _ hx => cPred.keep (fun g hg => hA.block g hg) hx)) hA.size hl s hs)
  have HA := hide hA
  have e1 : posB (S.preds.map (·.name)) s = posB S.ctx.names s := rfl
  have e2 : decide (s ∈ S.preds.map (·.name)) = decide (s ∈ S.ctx.names) := rfl
  rw [e1, e2] at CL
  generalize posB S.ctx.names s = n0 at *
  generalize decide (s ∈ S.ctx.names) = b0 at *
  unfold St9.agg str at *
  simp only at *
  clear h hA e1 e2
  go_enter Try.func19, Try.ntmps19
  go_wp2_with fail
  refine CL.out.mono ?_
  rintro _ w1 ⟨rfl, hb⟩
  have HB := hide (HA.out.trans (hb.mono HA.out.size))
  clear hb CL HA
  go_wp2_with fail
  simp [bodyPost, results, Try.results19, go_sem]
  exact HB.out
end Go.Proofs.Ytfnobccminhjpaa
