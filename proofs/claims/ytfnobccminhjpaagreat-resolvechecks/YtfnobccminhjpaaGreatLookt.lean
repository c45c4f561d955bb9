/- Kind, Member, Pred, Schema, Source, Total, however long the lists. -/
import Derived.Test.YtfnobccminhjpaaGreatNum8
namespace Go.Proofs.YtfnobccminhjpaaGreat
open Go.RowKit Go.Shelf Go.Maps Go.WideMaps
set_option maxRecDepth 100000 in
set_option maxHeartbeats 3200000 in
theorem looktK_any {N : Nat} {w : World} {l : List Bytes} {a : Option Addr} {c : Nat} (h : RR N 1 cS w l (.slice a l.length c)) (hN : N ≤ w.heap.size) (hl : l.length ≤ 140737488351232) (s : Bytes) (hs : s.length ≤ maxLen) :
    Calls Tryz.prog 68 #[.slice a l.length c, .func (.func 69) #[] #[], str s] w fun e w' => e = .returned (.tuple #[.int .i64 (posB (l.map id) s), .bool (decide (s ∈ l.map id))]) ∧ Below w.heap.size w w' := by
  have CN := hide (numK_any h hN hl)
  have HK := hide (key_mk hs)
  generalize l.map id = names at *
  unfold str
  clear h
  go_enter Tryz.func68, Tryz.ntmps68
  go_wp2_with fail
  refine CN.out.mono ?_
  rintro _ w1 ⟨rfl, ⟨n, D, hown, hNum, _⟩, hb⟩
  have HB := hide hb
  have HN := hide (hNum s)
  clear CN hb hNum
  go_wp2_with (at_lookup; go_must (refine wpList_lookup_own_ok_int _ rfl _ _ 98 rfl 9 3 .i64 law Tryz.underlying98 Tryz.underlying3 (Tryz.zeroValue3 _) w.heap.size n _ rfl hown _ _ rfl HK.out ?_); intro cc hat hwc)
  have hc : cc = posB names s := by
    have := hat.symm.trans HN.out.2
    injection this with e
    injection e
  have hh := HN.out.1
  subst hc
  clear hat hwc HN
  rw [hh]
  go_wp2_with fail
  simp [bodyPost, results, Tryz.results68, go_sem]
  exact HB.out
set_option maxRecDepth 100000 in
set_option maxHeartbeats 3200000 in
theorem kind_ask {S : StatM} {st : St9} {w : World} (h : SR w.heap.size w S st) (s : Bytes) (hs : s.length ≤ maxLen) :
    Calls Tryz.prog 17 #[st.agg, str s] w fun e w' => e = .returned (.tuple #[.int .i64 (posB S.kinds s), .bool (decide (s ∈ S.kinds))]) ∧ Below w.heap.size w w' := by
  obtain ⟨_, _, _, _, hl⟩ := h.kinds.form
  obtain ⟨tt, ht⟩ := h.title
  obtain ⟨a1, b1, f1, _, _⟩ := h.kinds.form
  obtain ⟨a2, b2, f2, _, _⟩ := h.members.form
  obtain ⟨a3, b3, f3, _, _⟩ := h.preds.form
  obtain ⟨a4, b4, f4, _, _⟩ := h.classes.form
  obtain ⟨a5, b5, f5, _, _⟩ := h.sources.form
  obtain ⟨a6, b6, f6, _, _⟩ := h.rules.form
  obtain ⟨a7, b7, f7, _, _⟩ := h.excepts.form
  obtain ⟨a8, b8, f8, _, _⟩ := h.totals.form
  obtain ⟨s0, s1, s2, s3, s4, s5, s6, s7, s8⟩ := st
  simp only at ht f1 f2 f3 f4 f5 f6 f7 f8
  subst ht f1 f2 f3 f4 f5 f6 f7 f8
  have hA : Below w.heap.size w (w.alloc (.cells #[.string tt, .slice a1 S.kinds.length b1, .slice a2 S.members.length b2, .slice a3 S.preds.length b3, .slice a4 S.classes.length b4, .slice a5 S.sources.length b5, .slice a6 S.rules.length b6, .slice a7 S.excepts.length b7, .slice a8 S.totals.length b8] 31)) := (Below.refl _ w).alloc (Nat.le_refl _) _
  have CL := hide (looktK_any (RR.keep h.kinds (w' := (w.alloc (.cells #[.string tt, .slice a1 S.kinds.length b1, .slice a2 S.members.length b2, .slice a3 S.preds.length b3, .slice a4 S.classes.length b4, .slice a5 S.sources.length b5, .slice a6 S.rules.length b6, .slice a7 S.excepts.length b7, .slice a8 S.totals.length b8] 31))) (fun g hg => hA.block g hg) (fun _ _ hx => hx)) hA.size hl s hs)
  have HA := hide hA
  have e1 : posB (S.kinds.map id) s = posB S.kinds s := by rw [List.map_id]
  have e2 : decide (s ∈ S.kinds.map id) = decide (s ∈ S.kinds) := by rw [List.map_id]
  rw [e1, e2] at CL
  generalize posB S.kinds s = n0 at *
  generalize decide (s ∈ S.kinds) = b0 at *
  unfold St9.agg str at *
  simp only at *
  clear h hA e1 e2
  go_enter Tryz.func17, Tryz.ntmps17
  go_wp2_with fail
  refine CL.out.mono ?_
  rintro _ w1 ⟨rfl, hb⟩
  have HB := hide (HA.out.trans (hb.mono HA.out.size))
  clear hb CL HA
  go_wp2_with fail
  simp [bodyPost, results, Tryz.results17, go_sem]
  exact HB.out
set_option maxRecDepth 100000 in
set_option maxHeartbeats 3200000 in
theorem looktM_any {N : Nat} {w : World} {l : List (Bytes × Bytes)} {a : Option Addr} {c : Nat} (h : RR N 2 cM w l (.slice a l.length c)) (hN : N ≤ w.heap.size) (hl : l.length ≤ 140737488351232) (s : Bytes) (hs : s.length ≤ maxLen) :
    Calls Tryz.prog 72 #[.slice a l.length c, .func (.func 73) #[] #[], str s] w fun e w' => e = .returned (.tuple #[.int .i64 (posB (l.map (·.1)) s), .bool (decide (s ∈ l.map (·.1)))]) ∧ Below w.heap.size w w' := by
  have CN := hide (numM_any h hN hl)
  have HK := hide (key_mk hs)
  generalize l.map (·.1) = names at *
  unfold str
  clear h
  go_enter Tryz.func72, Tryz.ntmps72
  go_wp2_with fail
  refine CN.out.mono ?_
  rintro _ w1 ⟨rfl, ⟨n, D, hown, hNum, _⟩, hb⟩
  have HB := hide hb
  have HN := hide (hNum s)
  clear CN hb hNum
  go_wp2_with (at_lookup; go_must (refine wpList_lookup_own_ok_int _ rfl _ _ 98 rfl 9 3 .i64 law Tryz.underlying98 Tryz.underlying3 (Tryz.zeroValue3 _) w.heap.size n _ rfl hown _ _ rfl HK.out ?_); intro cc hat hwc)
  have hc : cc = posB names s := by
    have := hat.symm.trans HN.out.2
    injection this with e
    injection e
  have hh := HN.out.1
  subst hc
  clear hat hwc HN
  rw [hh]
  go_wp2_with fail
  simp [bodyPost, results, Tryz.results72, go_sem]
  exact HB.out
set_option maxRecDepth 100000 in
set_option maxHeartbeats 3200000 in
theorem member_ask {S : StatM} {st : St9} {w : World} (h : SR w.heap.size w S st) (s : Bytes) (hs : s.length ≤ maxLen) :
    Calls Tryz.prog 19 #[st.agg, str s] w fun e w' => e = .returned (.tuple #[.int .i64 (posB S.ctx.people s), .bool (decide (s ∈ S.ctx.people))]) ∧ Below w.heap.size w w' := by
  obtain ⟨_, _, _, _, hl⟩ := h.members.form
  obtain ⟨tt, ht⟩ := h.title
  obtain ⟨a1, b1, f1, _, _⟩ := h.kinds.form
  obtain ⟨a2, b2, f2, _, _⟩ := h.members.form
  obtain ⟨a3, b3, f3, _, _⟩ := h.preds.form
  obtain ⟨a4, b4, f4, _, _⟩ := h.classes.form
  obtain ⟨a5, b5, f5, _, _⟩ := h.sources.form
  obtain ⟨a6, b6, f6, _, _⟩ := h.rules.form
  obtain ⟨a7, b7, f7, _, _⟩ := h.excepts.form
  obtain ⟨a8, b8, f8, _, _⟩ := h.totals.form
  obtain ⟨s0, s1, s2, s3, s4, s5, s6, s7, s8⟩ := st
  simp only at ht f1 f2 f3 f4 f5 f6 f7 f8
  subst ht f1 f2 f3 f4 f5 f6 f7 f8
  have hA : Below w.heap.size w (w.alloc (.cells #[.string tt, .slice a1 S.kinds.length b1, .slice a2 S.members.length b2, .slice a3 S.preds.length b3, .slice a4 S.classes.length b4, .slice a5 S.sources.length b5, .slice a6 S.rules.length b6, .slice a7 S.excepts.length b7, .slice a8 S.totals.length b8] 31)) := (Below.refl _ w).alloc (Nat.le_refl _) _
  have CL := hide (looktM_any (RR.keep h.members (w' := (w.alloc (.cells #[.string tt, .slice a1 S.kinds.length b1, .slice a2 S.members.length b2, .slice a3 S.preds.length b3, .slice a4 S.classes.length b4, .slice a5 S.sources.length b5, .slice a6 S.rules.length b6, .slice a7 S.excepts.length b7, .slice a8 S.totals.length b8] 31))) (fun g hg => hA.block g hg) (fun _ _ hx => hx)) hA.size hl s hs)
  have HA := hide hA
  have e1 : posB (S.members.map (·.1)) s = posB S.ctx.people s := rfl
  have e2 : decide (s ∈ S.members.map (·.1)) = decide (s ∈ S.ctx.people) := rfl
  rw [e1, e2] at CL
  generalize posB S.ctx.people s = n0 at *
  generalize decide (s ∈ S.ctx.people) = b0 at *
  unfold St9.agg str at *
  simp only at *
  clear h hA e1 e2
  go_enter Tryz.func19, Tryz.ntmps19
  go_wp2_with fail
  refine CL.out.mono ?_
  rintro _ w1 ⟨rfl, hb⟩
  have HB := hide (HA.out.trans (hb.mono HA.out.size))
  clear hb CL HA
  go_wp2_with fail
  simp [bodyPost, results, Tryz.results19, go_sem]
  exact HB.out
set_option maxRecDepth 100000 in
set_option maxHeartbeats 3200000 in
theorem looktP_any {N : Nat} {w : World} {l : List PredM} {a : Option Addr} {c : Nat} (h : RR N 4 (cPred N) w l (.slice a l.length c)) (hN : N ≤ w.heap.size) (hl : l.length ≤ 140737488351232) (s : Bytes) (hs : s.length ≤ maxLen) :
    Calls Tryz.prog 75 #[.slice a l.length c, .func (.func 76) #[] #[], str s] w fun e w' => e = .returned (.tuple #[.int .i64 (posB (l.map (·.name)) s), .bool (decide (s ∈ l.map (·.name)))]) ∧ Below w.heap.size w w' := by
  have CN := hide (numP_any h hN hl)
  have HK := hide (key_mk hs)
  generalize l.map (·.name) = names at *
  unfold str
  clear h
  go_enter Tryz.func75, Tryz.ntmps75
  go_wp2_with fail
  refine CN.out.mono ?_
  rintro _ w1 ⟨rfl, ⟨n, D, hown, hNum, _⟩, hb⟩
  have HB := hide hb
  have HN := hide (hNum s)
  clear CN hb hNum
  go_wp2_with (at_lookup; go_must (refine wpList_lookup_own_ok_int _ rfl _ _ 98 rfl 9 3 .i64 law Tryz.underlying98 Tryz.underlying3 (Tryz.zeroValue3 _) w.heap.size n _ rfl hown _ _ rfl HK.out ?_); intro cc hat hwc)
  have hc : cc = posB names s := by
    have := hat.symm.trans HN.out.2
    injection this with e
    injection e
  have hh := HN.out.1
  subst hc
  clear hat hwc HN
  rw [hh]
  go_wp2_with fail
  simp [bodyPost, results, Tryz.results75, go_sem]
  exact HB.out
set_option maxRecDepth 100000 in
set_option maxHeartbeats 3200000 in
theorem pred_ask {S : StatM} {st : St9} {w : World} (h : SR w.heap.size w S st) (s : Bytes) (hs : s.length ≤ maxLen) :
    Calls Tryz.prog 21 #[st.agg, str s] w fun e w' => e = .returned (.tuple #[.int .i64 (posB S.ctx.names s), .bool (decide (s ∈ S.ctx.names))]) ∧ Below w.heap.size w w' := by
  obtain ⟨_, _, _, _, hl⟩ := h.preds.form
  obtain ⟨tt, ht⟩ := h.title
  obtain ⟨a1, b1, f1, _, _⟩ := h.kinds.form
  obtain ⟨a2, b2, f2, _, _⟩ := h.members.form
  obtain ⟨a3, b3, f3, _, _⟩ := h.preds.form
  obtain ⟨a4, b4, f4, _, _⟩ := h.classes.form
  obtain ⟨a5, b5, f5, _, _⟩ := h.sources.form
  obtain ⟨a6, b6, f6, _, _⟩ := h.rules.form
  obtain ⟨a7, b7, f7, _, _⟩ := h.excepts.form
  obtain ⟨a8, b8, f8, _, _⟩ := h.totals.form
  obtain ⟨s0, s1, s2, s3, s4, s5, s6, s7, s8⟩ := st
  simp only at ht f1 f2 f3 f4 f5 f6 f7 f8
  subst ht f1 f2 f3 f4 f5 f6 f7 f8
  have hA : Below w.heap.size w (w.alloc (.cells #[.string tt, .slice a1 S.kinds.length b1, .slice a2 S.members.length b2, .slice a3 S.preds.length b3, .slice a4 S.classes.length b4, .slice a5 S.sources.length b5, .slice a6 S.rules.length b6, .slice a7 S.excepts.length b7, .slice a8 S.totals.length b8] 31)) := (Below.refl _ w).alloc (Nat.le_refl _) _
  have CL := hide (looktP_any (RR.keep h.preds (w' := (w.alloc (.cells #[.string tt, .slice a1 S.kinds.length b1, .slice a2 S.members.length b2, .slice a3 S.preds.length b3, .slice a4 S.classes.length b4, .slice a5 S.sources.length b5, .slice a6 S.rules.length b6, .slice a7 S.excepts.length b7, .slice a8 S.totals.length b8] 31))) (fun g hg => hA.block g hg) (fun _ _ hx => cPred.keep (fun g hg => hA.block g hg) hx)) hA.size hl s hs)
  have HA := hide hA
  have e1 : posB (S.preds.map (·.name)) s = posB S.ctx.names s := rfl
  have e2 : decide (s ∈ S.preds.map (·.name)) = decide (s ∈ S.ctx.names) := rfl
  rw [e1, e2] at CL
  generalize posB S.ctx.names s = n0 at *
  generalize decide (s ∈ S.ctx.names) = b0 at *
  unfold St9.agg str at *
  simp only at *
  clear h hA e1 e2
  go_enter Tryz.func21, Tryz.ntmps21
  go_wp2_with fail
  refine CL.out.mono ?_
  rintro _ w1 ⟨rfl, hb⟩
  have HB := hide (HA.out.trans (hb.mono HA.out.size))
  clear hb CL HA
  go_wp2_with fail
  simp [bodyPost, results, Tryz.results21, go_sem]
  exact HB.out
set_option maxRecDepth 100000 in
set_option maxHeartbeats 3200000 in
theorem looktR_any {N : Nat} {w : World} {l : List RuleM} {a : Option Addr} {c : Nat} (h : RR N 11 (cRule N) w l (.slice a l.length c)) (hN : N ≤ w.heap.size) (hl : l.length ≤ 140737488351232) (s : Bytes) (hs : s.length ≤ maxLen) :
    Calls Tryz.prog 78 #[.slice a l.length c, .func (.func 79) #[] #[], str s] w fun e w' => e = .returned (.tuple #[.int .i64 (posB (l.map (·.name)) s), .bool (decide (s ∈ l.map (·.name)))]) ∧ Below w.heap.size w w' := by
  have CN := hide (numR_any h hN hl)
  have HK := hide (key_mk hs)
  generalize l.map (·.name) = names at *
  unfold str
  clear h
  go_enter Tryz.func78, Tryz.ntmps78
  go_wp2_with fail
  refine CN.out.mono ?_
  rintro _ w1 ⟨rfl, ⟨n, D, hown, hNum, _⟩, hb⟩
  have HB := hide hb
  have HN := hide (hNum s)
  clear CN hb hNum
  go_wp2_with (at_lookup; go_must (refine wpList_lookup_own_ok_int _ rfl _ _ 98 rfl 9 3 .i64 law Tryz.underlying98 Tryz.underlying3 (Tryz.zeroValue3 _) w.heap.size n _ rfl hown _ _ rfl HK.out ?_); intro cc hat hwc)
  have hc : cc = posB names s := by
    have := hat.symm.trans HN.out.2
    injection this with e
    injection e
  have hh := HN.out.1
  subst hc
  clear hat hwc HN
  rw [hh]
  go_wp2_with fail
  simp [bodyPost, results, Tryz.results78, go_sem]
  exact HB.out
set_option maxRecDepth 100000 in
set_option maxHeartbeats 3200000 in
theorem schema_ask {S : StatM} {st : St9} {w : World} (h : SR w.heap.size w S st) (s : Bytes) (hs : s.length ≤ maxLen) :
    Calls Tryz.prog 23 #[st.agg, str s] w fun e w' => e = .returned (.tuple #[.int .i64 (posB S.heads s), .bool (decide (s ∈ S.heads))]) ∧ Below w.heap.size w w' := by
  obtain ⟨_, _, _, _, hl⟩ := h.rules.form
  obtain ⟨tt, ht⟩ := h.title
  obtain ⟨a1, b1, f1, _, _⟩ := h.kinds.form
  obtain ⟨a2, b2, f2, _, _⟩ := h.members.form
  obtain ⟨a3, b3, f3, _, _⟩ := h.preds.form
  obtain ⟨a4, b4, f4, _, _⟩ := h.classes.form
  obtain ⟨a5, b5, f5, _, _⟩ := h.sources.form
  obtain ⟨a6, b6, f6, _, _⟩ := h.rules.form
  obtain ⟨a7, b7, f7, _, _⟩ := h.excepts.form
  obtain ⟨a8, b8, f8, _, _⟩ := h.totals.form
  obtain ⟨s0, s1, s2, s3, s4, s5, s6, s7, s8⟩ := st
  simp only at ht f1 f2 f3 f4 f5 f6 f7 f8
  subst ht f1 f2 f3 f4 f5 f6 f7 f8
  have hA : Below w.heap.size w (w.alloc (.cells #[.string tt, .slice a1 S.kinds.length b1, .slice a2 S.members.length b2, .slice a3 S.preds.length b3, .slice a4 S.classes.length b4, .slice a5 S.sources.length b5, .slice a6 S.rules.length b6, .slice a7 S.excepts.length b7, .slice a8 S.totals.length b8] 31)) := (Below.refl _ w).alloc (Nat.le_refl _) _
  have CL := hide (looktR_any (RR.keep h.rules (w' := (w.alloc (.cells #[.string tt, .slice a1 S.kinds.length b1, .slice a2 S.members.length b2, .slice a3 S.preds.length b3, .slice a4 S.classes.length b4, .slice a5 S.sources.length b5, .slice a6 S.rules.length b6, .slice a7 S.excepts.length b7, .slice a8 S.totals.length b8] 31))) (fun g hg => hA.block g hg) (fun _ _ hx => cRule.keep (fun g hg => hA.block g hg) hx)) hA.size hl s hs)
  have HA := hide hA
  have e1 : posB (S.rules.map (·.name)) s = posB S.heads s := rfl
  have e2 : decide (s ∈ S.rules.map (·.name)) = decide (s ∈ S.heads) := rfl
  rw [e1, e2] at CL
  generalize posB S.heads s = n0 at *
  generalize decide (s ∈ S.heads) = b0 at *
  unfold St9.agg str at *
  simp only at *
  clear h hA e1 e2
  go_enter Tryz.func23, Tryz.ntmps23
  go_wp2_with fail
  refine CL.out.mono ?_
  rintro _ w1 ⟨rfl, hb⟩
  have HB := hide (HA.out.trans (hb.mono HA.out.size))
  clear hb CL HA
  go_wp2_with fail
  simp [bodyPost, results, Tryz.results23, go_sem]
  exact HB.out
set_option maxRecDepth 100000 in
set_option maxHeartbeats 3200000 in
theorem looktS_any {N : Nat} {w : World} {l : List (Bytes × Int)} {a : Option Addr} {c : Nat} (h : RR N 2 cSrc w l (.slice a l.length c)) (hN : N ≤ w.heap.size) (hl : l.length ≤ 140737488351232) (s : Bytes) (hs : s.length ≤ maxLen) :
    Calls Tryz.prog 81 #[.slice a l.length c, .func (.func 82) #[] #[], str s] w fun e w' => e = .returned (.tuple #[.int .i64 (posB (l.map (·.1)) s), .bool (decide (s ∈ l.map (·.1)))]) ∧ Below w.heap.size w w' := by
  have CN := hide (numS_any h hN hl)
  have HK := hide (key_mk hs)
  generalize l.map (·.1) = names at *
  unfold str
  clear h
  go_enter Tryz.func81, Tryz.ntmps81
  go_wp2_with fail
  refine CN.out.mono ?_
  rintro _ w1 ⟨rfl, ⟨n, D, hown, hNum, _⟩, hb⟩
  have HB := hide hb
  have HN := hide (hNum s)
  clear CN hb hNum
  go_wp2_with (at_lookup; go_must (refine wpList_lookup_own_ok_int _ rfl _ _ 98 rfl 9 3 .i64 law Tryz.underlying98 Tryz.underlying3 (Tryz.zeroValue3 _) w.heap.size n _ rfl hown _ _ rfl HK.out ?_); intro cc hat hwc)
  have hc : cc = posB names s := by
    have := hat.symm.trans HN.out.2
    injection this with e
    injection e
  have hh := HN.out.1
  subst hc
  clear hat hwc HN
  rw [hh]
  go_wp2_with fail
  simp [bodyPost, results, Tryz.results81, go_sem]
  exact HB.out
set_option maxRecDepth 100000 in
set_option maxHeartbeats 3200000 in
theorem source_ask {S : StatM} {st : St9} {w : World} (h : SR w.heap.size w S st) (s : Bytes) (hs : s.length ≤ maxLen) :
    Calls Tryz.prog 25 #[st.agg, str s] w fun e w' => e = .returned (.tuple #[.int .i64 (posB S.srcs s), .bool (decide (s ∈ S.srcs))]) ∧ Below w.heap.size w w' := by
  obtain ⟨_, _, _, _, hl⟩ := h.sources.form
  obtain ⟨tt, ht⟩ := h.title
  obtain ⟨a1, b1, f1, _, _⟩ := h.kinds.form
  obtain ⟨a2, b2, f2, _, _⟩ := h.members.form
  obtain ⟨a3, b3, f3, _, _⟩ := h.preds.form
  obtain ⟨a4, b4, f4, _, _⟩ := h.classes.form
  obtain ⟨a5, b5, f5, _, _⟩ := h.sources.form
  obtain ⟨a6, b6, f6, _, _⟩ := h.rules.form
  obtain ⟨a7, b7, f7, _, _⟩ := h.excepts.form
  obtain ⟨a8, b8, f8, _, _⟩ := h.totals.form
  obtain ⟨s0, s1, s2, s3, s4, s5, s6, s7, s8⟩ := st
  simp only at ht f1 f2 f3 f4 f5 f6 f7 f8
  subst ht f1 f2 f3 f4 f5 f6 f7 f8
  have hA : Below w.heap.size w (w.alloc (.cells #[.string tt, .slice a1 S.kinds.length b1, .slice a2 S.members.length b2, .slice a3 S.preds.length b3, .slice a4 S.classes.length b4, .slice a5 S.sources.length b5, .slice a6 S.rules.length b6, .slice a7 S.excepts.length b7, .slice a8 S.totals.length b8] 31)) := (Below.refl _ w).alloc (Nat.le_refl _) _
  have CL := hide (looktS_any (RR.keep h.sources (w' := (w.alloc (.cells #[.string tt, .slice a1 S.kinds.length b1, .slice a2 S.members.length b2, .slice a3 S.preds.length b3, .slice a4 S.classes.length b4, .slice a5 S.sources.length b5, .slice a6 S.rules.length b6, .slice a7 S.excepts.length b7, .slice a8 S.totals.length b8] 31))) (fun g hg => hA.block g hg) (fun _ _ hx => hx)) hA.size hl s hs)
  have HA := hide hA
  have e1 : posB (S.sources.map (·.1)) s = posB S.srcs s := rfl
  have e2 : decide (s ∈ S.sources.map (·.1)) = decide (s ∈ S.srcs) := rfl
  rw [e1, e2] at CL
  generalize posB S.srcs s = n0 at *
  generalize decide (s ∈ S.srcs) = b0 at *
  unfold St9.agg str at *
  simp only at *
  clear h hA e1 e2
  go_enter Tryz.func25, Tryz.ntmps25
  go_wp2_with fail
  refine CL.out.mono ?_
  rintro _ w1 ⟨rfl, hb⟩
  have HB := hide (HA.out.trans (hb.mono HA.out.size))
  clear hb CL HA
  go_wp2_with fail
  simp [bodyPost, results, Tryz.results25, go_sem]
  exact HB.out
set_option maxRecDepth 100000 in
set_option maxHeartbeats 3200000 in
theorem looktT_any {N : Nat} {w : World} {l : List TotalM} {a : Option Addr} {c : Nat} (h : RR N 5 (cTotal N) w l (.slice a l.length c)) (hN : N ≤ w.heap.size) (hl : l.length ≤ 140737488351232) (s : Bytes) (hs : s.length ≤ maxLen) :
    Calls Tryz.prog 84 #[.slice a l.length c, .func (.func 85) #[] #[], str s] w fun e w' => e = .returned (.tuple #[.int .i64 (posB (l.map (·.name)) s), .bool (decide (s ∈ l.map (·.name)))]) ∧ Below w.heap.size w w' := by
  have CN := hide (numT_any h hN hl)
  have HK := hide (key_mk hs)
  generalize l.map (·.name) = names at *
  unfold str
  clear h
  go_enter Tryz.func84, Tryz.ntmps84
  go_wp2_with fail
  refine CN.out.mono ?_
  rintro _ w1 ⟨rfl, ⟨n, D, hown, hNum, _⟩, hb⟩
  have HB := hide hb
  have HN := hide (hNum s)
  clear CN hb hNum
  go_wp2_with (at_lookup; go_must (refine wpList_lookup_own_ok_int _ rfl _ _ 98 rfl 9 3 .i64 law Tryz.underlying98 Tryz.underlying3 (Tryz.zeroValue3 _) w.heap.size n _ rfl hown _ _ rfl HK.out ?_); intro cc hat hwc)
  have hc : cc = posB names s := by
    have := hat.symm.trans HN.out.2
    injection this with e
    injection e
  have hh := HN.out.1
  subst hc
  clear hat hwc HN
  rw [hh]
  go_wp2_with fail
  simp [bodyPost, results, Tryz.results84, go_sem]
  exact HB.out
set_option maxRecDepth 100000 in
set_option maxHeartbeats 3200000 in
theorem total_ask {S : StatM} {st : St9} {w : World} (h : SR w.heap.size w S st) (s : Bytes) (hs : s.length ≤ maxLen) :
    Calls Tryz.prog 27 #[st.agg, str s] w fun e w' => e = .returned (.tuple #[.int .i64 (posB S.sums s), .bool (decide (s ∈ S.sums))]) ∧ Below w.heap.size w w' := by
  obtain ⟨_, _, _, _, hl⟩ := h.totals.form
  obtain ⟨tt, ht⟩ := h.title
  obtain ⟨a1, b1, f1, _, _⟩ := h.kinds.form
  obtain ⟨a2, b2, f2, _, _⟩ := h.members.form
  obtain ⟨a3, b3, f3, _, _⟩ := h.preds.form
  obtain ⟨a4, b4, f4, _, _⟩ := h.classes.form
  obtain ⟨a5, b5, f5, _, _⟩ := h.sources.form
  obtain ⟨a6, b6, f6, _, _⟩ := h.rules.form
  obtain ⟨a7, b7, f7, _, _⟩ := h.excepts.form
  obtain ⟨a8, b8, f8, _, _⟩ := h.totals.form
  obtain ⟨s0, s1, s2, s3, s4, s5, s6, s7, s8⟩ := st
  simp only at ht f1 f2 f3 f4 f5 f6 f7 f8
  subst ht f1 f2 f3 f4 f5 f6 f7 f8
  have hA : Below w.heap.size w (w.alloc (.cells #[.string tt, .slice a1 S.kinds.length b1, .slice a2 S.members.length b2, .slice a3 S.preds.length b3, .slice a4 S.classes.length b4, .slice a5 S.sources.length b5, .slice a6 S.rules.length b6, .slice a7 S.excepts.length b7, .slice a8 S.totals.length b8] 31)) := (Below.refl _ w).alloc (Nat.le_refl _) _
  have CL := hide (looktT_any (RR.keep h.totals (w' := (w.alloc (.cells #[.string tt, .slice a1 S.kinds.length b1, .slice a2 S.members.length b2, .slice a3 S.preds.length b3, .slice a4 S.classes.length b4, .slice a5 S.sources.length b5, .slice a6 S.rules.length b6, .slice a7 S.excepts.length b7, .slice a8 S.totals.length b8] 31))) (fun g hg => hA.block g hg) (fun _ _ hx => cTotal.keep (fun g hg => hA.block g hg) hx)) hA.size hl s hs)
  have HA := hide hA
  have e1 : posB (S.totals.map (·.name)) s = posB S.sums s := rfl
  have e2 : decide (s ∈ S.totals.map (·.name)) = decide (s ∈ S.sums) := rfl
  rw [e1, e2] at CL
  generalize posB S.sums s = n0 at *
  generalize decide (s ∈ S.sums) = b0 at *
  unfold St9.agg str at *
  simp only at *
  clear h hA e1 e2
  go_enter Tryz.func27, Tryz.ntmps27
  go_wp2_with fail
  refine CL.out.mono ?_
  rintro _ w1 ⟨rfl, hb⟩
  have HB := hide (HA.out.trans (hb.mono HA.out.size))
  clear hb CL HA
  go_wp2_with fail
  simp [bodyPost, results, Tryz.results27, go_sem]
  exact HB.out
end Go.Proofs.YtfnobccminhjpaaGreat
