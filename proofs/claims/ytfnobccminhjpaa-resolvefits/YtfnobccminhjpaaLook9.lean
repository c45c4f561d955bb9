/- Kind, Member, Pred. -/
import Derived.Test.YtfnobccminhjpaaVars9
namespace Go.Proofs.Ytfnobccminhjpaa
open Go.RowKit Go.Shelf Go.Maps Go.WideMaps
set_option maxRecDepth 100000 in
set_option maxHeartbeats 3200000 in
theorem lookK_any {N : Nat} {w : World} {l : List Bytes} {a : Option Addr} {c : Nat} (h : RR N 1 cS w l (.slice a l.length c)) (hN : N ≤ w.heap.size) (hl : l.length ≤ 4096) (s : Bytes) (hs : s.length ≤ maxLen) :
    Calls Try.prog 41 #[.slice a l.length c, .func (.func 26) #[] #[], str s] w fun e w' => e = .returned (.tuple #[.int .i64 (posB (l.map id) s), .bool (decide (s ∈ l.map id))]) ∧ Below w.heap.size w w' := by
  have CN := hide (numK_any h hN hl)
  have HK := hide (key_mk hs)
  generalize l.map id = names at *
  unfold str
  clear h
  go_enter Try.func41, Try.ntmps41
  go_wp2_with fail
  refine CN.out.mono ?_
  rintro _ w1 ⟨rfl, ⟨n, D, hown, hNum, _⟩, hb⟩
  have HB := hide hb
  have HN := hide (hNum s)
  clear CN hb hNum
  go_wp2_with (at_lookup; go_must (refine wpList_lookup_own_ok_int _ rfl _ _ 68 rfl 9 3 .i64 law Try.underlying68 Try.underlying3 (Try.zeroValue3 _) w.heap.size n _ rfl hown _ _ rfl HK.out ?_); intro cc hat hwc)
  have hc : cc = posB names s := by
    have := hat.symm.trans HN.out.2
    injection this with e
    injection e
  have hh := HN.out.1
  subst hc
  clear hat hwc HN
  rw [hh]
  go_wp2_with fail
  simp [bodyPost, results, Try.results41, go_sem]
  exact HB.out
set_option maxRecDepth 100000 in
set_option maxHeartbeats 3200000 in
theorem kind_asks {S : StatM} {st : St9} {w : World} (h : SR w.heap.size w S st) (hl : S.kinds.length ≤ 4096) (s : Bytes) (hs : s.length ≤ maxLen) :
    Calls Try.prog 20 #[st.agg, str s] w fun e w' => e = .returned (.tuple #[.int .i64 (posB S.kinds s), .bool (decide (s ∈ S.kinds))]) ∧ Below w.heap.size w w' := by
  obtain ⟨tt, ht⟩ := h.title
  obtain ⟨a1, b1, f1, _, _⟩ := h.kinds.form
  obtain ⟨a2, b2, f2, _, _⟩ := h.members.form
  obtain ⟨a3, b3, f3, _, _⟩ := h.preds.form
  obtain ⟨a4, b4, f4, _, _⟩ := h.classes.form
  obtain ⟨a5, b5, f5, _, _⟩ := h.sources.form
  obtain ⟨a6, b6, f6, _, _⟩ := h.rules.form
  obtain ⟨a7, b7, f7, _, _⟩ := h.excepts.form
  obtain ⟨a8, b8, f8, _, _⟩ := h.totals.form
  obtain ⟨s0, s1, s2, s3, s4, s5, s6, s7, s8⟩ := st
  simp only at ht f1 f2 f3 f4 f5 f6 f7 f8
  subst ht f1 f2 f3 f4 f5 f6 f7 f8
  have hA : Below w.heap.size w (w.alloc (.cells #[.string tt, .slice a1 S.kinds.length b1, .slice a2 S.members.length b2, .slice a3 S.preds.length b3, .slice a4 S.classes.length b4, .slice a5 S.sources.length b5, .slice a6 S.rules.length b6, .slice a7 S.excepts.length b7, .slice a8 S.totals.length b8] 31)) := (Below.refl _ w).alloc (Nat.le_refl _) _
  have CL := hide (lookK_any (RR.keep h.kinds (w' := (w.alloc (.cells #[.string tt, .slice a1 S.kinds.length b1, .slice a2 S.members.length b2, .slice a3 S.preds.length b3, .slice a4 S.classes.length b4, .slice a5 S.sources.length b5, .slice a6 S.rules.length b6, .slice a7 S.excepts.length b7, .slice a8 S.totals.length b8] 31))) (fun g hg => hA.block g hg) (fun _ _ hx => hx)) hA.size hl s hs)
  have HA := hide hA
  have e1 : posB (S.kinds.map id) s = posB S.kinds s := by rw [List.map_id]
  have e2 : decide (s ∈ S.kinds.map id) = decide (s ∈ S.kinds) := by rw [List.map_id]
  rw [e1, e2] at CL
  generalize posB S.kinds s = n0 at *
  generalize decide (s ∈ S.kinds) = b0 at *
  unfold St9.agg str at *
  simp only at *
  clear h hA e1 e2
  go_enter Try.func20, Try.ntmps20
  go_wp2_with fail
  refine CL.out.mono ?_
  rintro _ w1 ⟨rfl, hb⟩
  have HB := hide (HA.out.trans (hb.mono HA.out.size))
  clear hb CL HA
  go_wp2_with fail
  simp [bodyPost, results, Try.results20, go_sem]
  exact HB.out
set_option maxRecDepth 100000 in
set_option maxHeartbeats 3200000 in
theorem lookM_any {N : Nat} {w : World} {l : List (Bytes × Bytes)} {a : Option Addr} {c : Nat} (h : RR N 2 cM w l (.slice a l.length c)) (hN : N ≤ w.heap.size) (hl : l.length ≤ 4096) (s : Bytes) (hs : s.length ≤ maxLen) :
    Calls Try.prog 42 #[.slice a l.length c, .func (.func 43) #[] #[], str s] w fun e w' => e = .returned (.tuple #[.int .i64 (posB (l.map (·.1)) s), .bool (decide (s ∈ l.map (·.1)))]) ∧ Below w.heap.size w w' := by
  have CN := hide (numM_any h hN hl)
  have HK := hide (key_mk hs)
  generalize l.map (·.1) = names at *
  unfold str
  clear h
  go_enter Try.func42, Try.ntmps42
  go_wp2_with fail
  refine CN.out.mono ?_
  rintro _ w1 ⟨rfl, ⟨n, D, hown, hNum, _⟩, hb⟩
  have HB := hide hb
  have HN := hide (hNum s)
  clear CN hb hNum
  go_wp2_with (at_lookup; go_must (refine wpList_lookup_own_ok_int _ rfl _ _ 68 rfl 9 3 .i64 law Try.underlying68 Try.underlying3 (Try.zeroValue3 _) w.heap.size n _ rfl hown _ _ rfl HK.out ?_); intro cc hat hwc)
  have hc : cc = posB names s := by
    have := hat.symm.trans HN.out.2
    injection this with e
    injection e
  have hh := HN.out.1
  subst hc
  clear hat hwc HN
  rw [hh]
  go_wp2_with fail
  simp [bodyPost, results, Try.results42, go_sem]
  exact HB.out
set_option maxRecDepth 100000 in
set_option maxHeartbeats 3200000 in
theorem member_asks {S : StatM} {st : St9} {w : World} (h : SR w.heap.size w S st) (hl : S.members.length ≤ 4096) (s : Bytes) (hs : s.length ≤ maxLen) :
    Calls Try.prog 21 #[st.agg, str s] w fun e w' => e = .returned (.tuple #[.int .i64 (posB S.ctx.people s), .bool (decide (s ∈ S.ctx.people))]) ∧ Below w.heap.size w w' := by
  obtain ⟨tt, ht⟩ := h.title
  obtain ⟨a1, b1, f1, _, _⟩ := h.kinds.form
  obtain ⟨a2, b2, f2, _, _⟩ := h.members.form
  obtain ⟨a3, b3, f3, _, _⟩ := h.preds.form
  obtain ⟨a4, b4, f4, _, _⟩ := h.classes.form
  obtain ⟨a5, b5, f5, _, _⟩ := h.sources.form
  obtain ⟨a6, b6, f6, _, _⟩ := h.rules.form
  obtain ⟨a7, b7, f7, _, _⟩ := h.excepts.form
  obtain ⟨a8, b8, f8, _, _⟩ := h.totals.form
  obtain ⟨s0, s1, s2, s3, s4, s5, s6, s7, s8⟩ := st
  simp only at ht f1 f2 f3 f4 f5 f6 f7 f8
  subst ht f1 f2 f3 f4 f5 f6 f7 f8
  have hA : Below w.heap.size w (w.alloc (.cells #[.string tt, .slice a1 S.kinds.length b1, .slice a2 S.members.length b2, .slice a3 S.preds.length b3, .slice a4 S.classes.length b4, .slice a5 S.sources.length b5, .slice a6 S.rules.length b6, .slice a7 S.excepts.length b7, .slice a8 S.totals.length b8] 31)) := (Below.refl _ w).alloc (Nat.le_refl _) _
  have CL := hide (lookM_any (RR.keep h.members (w' := (w.alloc (.cells #[.string tt, .slice a1 S.kinds.length b1, .slice a2 S.members.length b2, .slice a3 S.preds.length b3, .slice a4 S.classes.length b4, .slice a5 S.sources.length b5, .slice a6 S.rules.length b6, .slice a7 S.excepts.length b7, .slice a8 S.totals.length b8] 31))) (fun g hg => hA.block g hg) (fun _ _ hx => hx)) hA.size hl s hs)
  have HA := hide hA
  have e1 : posB (S.members.map (·.1)) s = posB S.ctx.people s := rfl
  have e2 : decide (s ∈ S.members.map (·.1)) = decide (s ∈ S.ctx.people) := rfl
  rw [e1, e2] at CL
  generalize posB S.ctx.people s = n0 at *
  generalize decide (s ∈ S.ctx.people) = b0 at *
  unfold St9.agg str at *
  simp only at *
  clear h hA e1 e2
  go_enter Try.func21, Try.ntmps21
  go_wp2_with fail
  refine CL.out.mono ?_
  rintro _ w1 ⟨rfl, hb⟩
  have HB := hide (HA.out.trans (hb.mono HA.out.size))
  clear hb CL HA
  go_wp2_with fail
  simp [bodyPost, results, Try.results21, go_sem]
  exact HB.out
set_option maxRecDepth 100000 in
set_option maxHeartbeats 3200000 in
theorem lookP_any {N : Nat} {w : World} {l : List PredM} {a : Option Addr} {c : Nat} (h : RR N 4 (cPred N) w l (.slice a l.length c)) (hN : N ≤ w.heap.size) (hl : l.length ≤ 4096) (s : Bytes) (hs : s.length ≤ maxLen) :
    Calls Try.prog 39 #[.slice a l.length c, .func (.func 40) #[] #[], str s] w fun e w' => e = .returned (.tuple #[.int .i64 (posB (l.map (·.name)) s), .bool (decide (s ∈ l.map (·.name)))]) ∧ Below w.heap.size w w' := by
  have CN := hide (numP_any h hN hl)
  have HK := hide (key_mk hs)
  generalize l.map (·.name) = names at *
  unfold str
  clear h
  go_enter Try.func39, Try.ntmps39
  go_wp2_with fail
  refine CN.out.mono ?_
  rintro _ w1 ⟨rfl, ⟨n, D, hown, hNum, _⟩, hb⟩
  have HB := hide hb
  have HN := hide (hNum s)
  clear CN hb hNum
  go_wp2_with (at_lookup; go_must (refine wpList_lookup_own_ok_int _ rfl _ _ 68 rfl 9 3 .i64 law Try.underlying68 Try.underlying3 (Try.zeroValue3 _) w.heap.size n _ rfl hown _ _ rfl HK.out ?_); intro cc hat hwc)
  have hc : cc = posB names s := by
    have := hat.symm.trans HN.out.2
    injection this with e
    injection e
  have hh := HN.out.1
  subst hc
  clear hat hwc HN
  rw [hh]
  go_wp2_with fail
  simp [bodyPost, results, Try.results39, go_sem]
  exact HB.out
set_option maxRecDepth 100000 in
set_option maxHeartbeats 3200000 in
theorem pred_asks {S : StatM} {st : St9} {w : World} (h : SR w.heap.size w S st) (hl : S.preds.length ≤ 4096) (s : Bytes) (hs : s.length ≤ maxLen) :
    Calls Try.prog 19 #[st.agg, str s] w fun e w' => e = .returned (.tuple #[.int .i64 (posB S.ctx.names s), .bool (decide (s ∈ S.ctx.names))]) ∧ Below w.heap.size w w' := by
  obtain ⟨tt, ht⟩ := h.title
  obtain ⟨a1, b1, f1, _, _⟩ := h.kinds.form
  obtain ⟨a2, b2, f2, _, _⟩ := h.members.form
  obtain ⟨a3, b3, f3, _, _⟩ := h.preds.form
  obtain ⟨a4, b4, f4, _, _⟩ := h.classes.form
  obtain ⟨a5, b5, f5, _, _⟩ := h.sources.form
  obtain ⟨a6, b6, f6, _, _⟩ := h.rules.form
  obtain ⟨a7, b7, f7, _, _⟩ := h.excepts.form
  obtain ⟨a8, b8, f8, _, _⟩ := h.totals.form
  obtain ⟨s0, s1, s2, s3, s4, s5, s6, s7, s8⟩ := st
  simp only at ht f1 f2 f3 f4 f5 f6 f7 f8
  subst ht f1 f2 f3 f4 f5 f6 f7 f8
  have hA : Below w.heap.size w (w.alloc (.cells #[.string tt, .slice a1 S.kinds.length b1, .slice a2 S.members.length b2, .slice a3 S.preds.length b3, .slice a4 S.classes.length b4, .slice a5 S.sources.length b5, .slice a6 S.rules.length b6, .slice a7 S.excepts.length b7, .slice a8 S.totals.length b8] 31)) := (Below.refl _ w).alloc (Nat.le_refl _) _
  have CL := hide (lookP_any (RR.keep h.preds (w' := (w.alloc (.cells #[.string tt, .slice a1 S.kinds.length b1, .slice a2 S.members.length b2, .slice a3 S.preds.length b3, .slice a4 S.classes.length b4, .slice a5 S.sources.length b5, .slice a6 S.rules.length b6, .slice a7 S.excepts.length b7, .slice a8 S.totals.length b8] 31))) (fun g hg => hA.block g hg) (fun _ _ hx => cPred.keep (fun g hg => hA.block g hg) hx)) hA.size hl s hs)
  have HA := hide hA
  have e1 : posB (S.preds.map (·.name)) s = posB S.ctx.names s := rfl
  have e2 : decide (s ∈ S.preds.map (·.name)) = decide (s ∈ S.ctx.names) := rfl
  rw [e1, e2] at CL
  generalize posB S.ctx.names s = n0 at *
  generalize decide (s ∈ S.ctx.names) = b0 at *
  unfold St9.agg str at *
  simp only at *
  clear h hA e1 e2
  go_enter Try.func19, Try.ntmps19
  go_wp2_with fail
  refine CL.out.mono ?_
  rintro _ w1 ⟨rfl, hb⟩
  have HB := hide (HA.out.trans (hb.mono HA.out.size))
  clear hb CL HA
  go_wp2_with fail
  simp [bodyPost, results, Try.results19, go_sem]
  exact HB.out
end Go.Proofs.Ytfnobccminhjpaa
/- Of: how many members of a kind there are. -/
namespace Go.Proofs.Ytfnobccminhjpaa
open Go.RowKit Go.Shelf Go.Maps Go.WideMaps

/-- Is a member of that kind? -/
def ofP (kinds : List Bytes) (k : Int) (m : Bytes × Bytes) : Bool := decide (m.2 ∈ kinds) && decide ((posB kinds m.2 : Int) = k)
def ofN (kinds : List Bytes) (k : Int) (l : List (Bytes × Bytes)) : Nat := (l.filter (ofP kinds k)).length
theorem ofN_step {kinds : List Bytes} {k : Int} {l : List (Bytes × Bytes)} {i : Nat} {x : Bytes × Bytes} (hx : l[i]? = some x) : ofN kinds k (l.take (i + 1)) = ofN kinds k (l.take i) + (if ofP kinds k x then 1 else 0) := by
  unfold ofN
  rw [take_snoc hx, List.filter_append, List.length_append]
  congr 1
  by_cases h : ofP kinds k x = true
  · rw [if_pos h, List.filter_cons_of_pos h]; rfl
  · rw [if_neg h, List.filter_cons_of_neg h]; rfl
theorem ofN_le {kinds : List Bytes} {k : Int} {l : List (Bytes × Bytes)} (i : Nat) : ofN kinds k (l.take i) ≤ i := by
  unfold ofN
  have := List.length_filter_le (ofP kinds k) (l.take i)
  have h2 : (l.take i).length ≤ i := by simp; omega
  omega

/-- What has been gathered when i members have been asked. -/
structure OI (w : World) (bx M : Nat) (kinds : List Bytes) (n : Nat) (mv : Value) (wr : World) : Prop where
  low : Below w.heap.size w wr
  map : KMap 9 wr M kinds
  row : ∃ xs, wr.ownsRow w.heap.size 3 1 mv n xs
  far : w.heap.size ≤ M
theorem OI.below {w : World} {bx M : Nat} {kinds : List Bytes} {n : Nat} {mv : Value} {wr w' : World} (h : OI w bx M kinds n mv wr) (hb : Below wr.heap.size wr w') : OI w bx M kinds n mv w' := by
  obtain ⟨xs, hx⟩ := h.row
  exact ⟨h.low.trans (hb.mono h.low.size), h.map.keep (hb.block _ h.map.lt), ⟨xs, owns_keep hx fun g hg => hb.block g (owns_lt hx hg)⟩, h.far⟩

theorem OI.grow {w : World} {bx M : Nat} {kinds : List Bytes} {n : Nat} {mv : Value} {wd w4 : World} {xs ys : List Value} {ob : Obj} {g4 cap4 : Nat} (h : OI w bx M kinds n mv wd) (hr0 : wd.ownsRow w.heap.size 3 1 mv n xs) (hown : w4.ownsRow w.heap.size 3 1 (.slice (some ⟨g4, 0, none⟩) (n + 1) cap4) (n + 1) ys)
    (hg : (mv.ownBlock = some g4 ∧ (wd.alloc ob).grownBy w4 (some g4)) ∨ (g4 = wd.heap.size + 1 ∧ (wd.alloc ob).grownBy w4 none)) : OI w bx M kinds (n + 1) (.slice (some ⟨g4, 0, none⟩) (n + 1) cap4) w4 := by
  have hr : wd.ownsRow 0 3 1 mv n xs := by
    obtain ⟨h1, h2⟩ := hr0
    refine ⟨h1, ?_⟩
    rcases h2 with h2 | ⟨g, cap, cur, e, _, h4⟩
    · exact .inl h2
    · exact .inr ⟨g, cap, cur, e, Nat.zero_le _, h4⟩
  have hfr := grown_fr (Z := fun k => w.heap.size ≤ k) rfl hg fun g e => (hr0.lt g e).1
  exact ⟨h.low.trans (hfr.below fun k hk => ⟨Nat.lt_of_lt_of_le hk h.low.size, by show ¬ w.heap.size ≤ k; omega⟩), h.map.keep (grown_old rfl hg h.map.lt (own_neM hr h.map)), ⟨_, hown⟩, h.far⟩
section
variable {S : StatM} {st : St9} {w : World}
set_option maxRecDepth 100000 in
set_option maxHeartbeats 6400000 in
theorem of_any (h : SR w.heap.size w S st) (hk4 : S.kinds.length ≤ 4096) (hm4 : S.members.length ≤ 4096) (k : Int) : Calls Try.prog 10 #[st.agg, .int .i64 k] w fun e w' => ∃ a c, e = .returned (.slice a (ofN S.kinds k S.members) c) ∧ Below w.heap.size w w' := by
  obtain ⟨tt, ht⟩ := h.title
  obtain ⟨a1, b1, f1, _, _⟩ := h.kinds.form
  obtain ⟨a2, b2, f2, _, _⟩ := h.members.form
  obtain ⟨a3, b3, f3, _, _⟩ := h.preds.form
  obtain ⟨a4, b4, f4, _, _⟩ := h.classes.form
  obtain ⟨a5, b5, f5, _, _⟩ := h.sources.form
  obtain ⟨a6, b6, f6, _, _⟩ := h.rules.form
  obtain ⟨a7, b7, f7, _, _⟩ := h.excepts.form
  obtain ⟨a8, b8, f8, _, _⟩ := h.totals.form
  obtain ⟨s0, s1, s2, s3, s4, s5, s6, s7, s8⟩ := st
  simp only at ht f1 f2 f3 f4 f5 f6 f7 f8
  subst ht f1 f2 f3 f4 f5 f6 f7 f8
  have hA : Below w.heap.size w (w.alloc (.cells #[.string tt, .slice a1 S.kinds.length b1, .slice a2 S.members.length b2, .slice a3 S.preds.length b3, .slice a4 S.classes.length b4, .slice a5 S.sources.length b5, .slice a6 S.rules.length b6, .slice a7 S.excepts.length b7, .slice a8 S.totals.length b8] 31)) := (Below.refl _ w).alloc (Nat.le_refl _) _
  have CN := hide (numK_any (RR.keep h.kinds (w' := (w.alloc (.cells #[.string tt, .slice a1 S.kinds.length b1, .slice a2 S.members.length b2, .slice a3 S.preds.length b3, .slice a4 S.classes.length b4, .slice a5 S.sources.length b5, .slice a6 S.rules.length b6, .slice a7 S.excepts.length b7, .slice a8 S.totals.length b8] 31))) (fun g hg => hA.block g hg) (fun _ _ hx => hx)) hA.size hk4)
  have hbx : (w.alloc (.cells #[.string tt, .slice a1 S.kinds.length b1, .slice a2 S.members.length b2, .slice a3 S.preds.length b3, .slice a4 S.classes.length b4, .slice a5 S.sources.length b5, .slice a6 S.rules.length b6, .slice a7 S.excepts.length b7, .slice a8 S.totals.length b8] 31)).cell? ⟨w.heap.size, 2, none⟩ = some (.slice a2 S.members.length b2) := cell_of_row _ _ 2 _ _ _ (heap_alloc_new w _)
  rw [List.map_id] at CN
  have HA := hide hA
  have HBX := hide hbx
  have HM := hide h.members
  obtain ⟨iM, hiM, zM0, zM1, zM2⟩ := info_parts' infoI
  unfold St9.agg
  simp only at *
  clear h hA hbx
  go_enter Try.func10, Try.ntmps10
  go_wp2_with (go_at_call 25; refine CN.out.mono ?_; rintro _ w1 ⟨rfl, hm1, hb1⟩; have O1 : Hid (OI w w.heap.size (w.heap.size + 1) S.kinds 0 (.slice none 0 0) w1) := hide ⟨HA.out.trans (hb1.mono HA.out.size), (by have hz : (w.alloc (.cells #[.string tt, .slice a1 S.kinds.length b1, .slice a2 S.members.length b2, .slice a3 S.preds.length b3, .slice a4 S.classes.length b4, .slice a5 S.sources.length b5, .slice a6 S.rules.length b6, .slice a7 S.excepts.length b7, .slice a8 S.totals.length b8] 31)).heap.size = w.heap.size + 1 := (by simp); rw [hz] at hm1; exact hm1), ⟨[], rfl, .inl ⟨rfl, rfl⟩⟩, Nat.le_succ _⟩; have x2 := (World.cell?_of_block (hb1.block w.heap.size (by simp))).trans HBX.out; clear hm1 hb1 CN)
  clear HA HBX x2
  go_loopw [6, 17] (fun mv x wr => ∃ (i : Nat) (a0 : Option Addr) (c0 : Nat), i ≤ S.members.length ∧ x = .int .i64 i ∧ mv = .slice a0 (ofN S.kinds k (S.members.take i)) c0 ∧ Hid (OI w w.heap.size (w.heap.size + 1) S.kinds (ofN S.kinds k (S.members.take i)) (.slice a0 (ofN S.kinds k (S.members.take i)) c0) wr)) (fun _ x _ => S.members.length - (intOf x).toNat)
  case atStart => exact ⟨0, none, 0, by omega, rfl, rfl, O1⟩
  case round =>
    clear O1
    obtain ⟨i, a0, c0, hi, rfl, rfl, HO⟩ := hrel
    by_cases hlt : i < S.members.length
    · obtain ⟨x, hx⟩ : ∃ x, S.members[i]? = some x := ⟨S.members[i], List.getElem?_eq_getElem hlt⟩
      have HSt := hide (ofN_step (kinds := S.kinds) (k := k) hx)
      have HLe := ofN_le (kinds := S.kinds) (k := k) (l := S.members) i
      have hr := RR.keep HM.out (w' := wr) (fun g hg => HO.out.low.block g hg) (fun _ _ h => h)
      obtain ⟨g, o, rfl, hg, d0, d1, hs, hs2⟩ := at_M hr hx
      have HG : Hid (g < wr.heap.size) := hide (Nat.lt_of_lt_of_le hg HO.out.low.size)
      clear hr hx hg
      unfold str at d0 d1
      have hA2 : Below wr.heap.size wr (wr.alloc (.cells #[.string ⟨x.1.toArray⟩, .string ⟨x.2.toArray⟩] 79)) := (Below.refl _ _).alloc (Nat.le_refl _) _
      have HO2 := hide (HO.out.below hA2)
      clear hA2
      generalize ofN S.kinds k (S.members.take i) = n at *
      obtain ⟨nn, D, hown, hNum, _⟩ := HO2.out.map
      have HN := hide (hNum x.2)
      have HK := hide (key_mk hs2)
      clear hNum
      go_upto_region 7 with (at_lookup; go_must (refine wpList_lookup_own_ok_int _ rfl _ _ 68 rfl 9 3 .i64 law Try.underlying68 Try.underlying3 (Try.zeroValue3 _) (w.heap.size + 1) nn _ rfl hown _ _ rfl HK.out ?_); intro cc hat hwc; have hc : cc = posB S.kinds x.2 := (by have h9 := hat.symm.trans HN.out.2; injection h9 with e; injection e); have hh := HN.out.1; subst hc; clear hat hwc HN hown; rw [hh]; clear hh)
      by_cases hin : x.2 ∈ S.kinds
      · rw [decide_eq_true hin]
        by_cases heq : (posB S.kinds x.2 : Int) = k
        · have hp : ofP S.kinds k x = true := by unfold ofP; rw [decide_eq_true hin, decide_eq_true heq]; rfl
          have hbq : ((posB S.kinds x.2 : Int) == k) = true := by simpa using heq
          rw [hp] at HSt
          simp only [if_true] at HSt
          obtain ⟨xs, hrow⟩ := HO2.out.row
          have HROW := hide hrow
          have HL1 := HO2.out.low.size
          clear hrow
          generalize (wr.alloc (.cells #[.string ⟨x.1.toArray⟩, .string ⟨x.2.toArray⟩] 79)) = wd at *
          clear heq hp
          go_wp2_with (at_builtin; go_must (refine wpList_append_two _ rfl _ _ 37 rfl w.heap.size 3 iM _ 1 8 Try.underlying37 hiM zM0 zM1 zM2 rfl (by decide) _ _ _ rfl (HROW.out.alloc _) ⟨wd.heap.size, 0, none⟩ 1 [.int .i64 i] rfl rfl (news_at rfl) (by simp [Value.oneCell']) (by unfold maxLen; omega) (by omega) (by simp; omega) ?_); intro g4 cap4 w4 hown4 hg4)
          have hz : (wd.alloc (.cells #[.int .i64 (i : Int)] 3)).heap.size = wd.heap.size + 1 := by simp
          rw [hz] at hg4
          refine ⟨⟨i + 1, some ⟨g4, 0, none⟩, cap4, by omega, by go_num, by rw [HSt.out], ?_⟩, by simp [intOf]; omega⟩
          rw [HSt.out]
          exact hide (HO2.out.grow HROW.out hown4 hg4)
        · have hp : ofP S.kinds k x = false := by unfold ofP; rw [decide_eq_false heq, Bool.and_false]
          have hbq : ((posB S.kinds x.2 : Int) == k) = false := by simpa using heq
          rw [hp] at HSt
          simp only [Bool.false_eq_true, if_false, Nat.add_zero] at HSt
          go_wp2_with fail
          go_roundw
          case rel => exact ⟨i + 1, a0, c0, by omega, by go_num, by rw [HSt.out], by rw [HSt.out]; exact HO2⟩
          case measure => simp [intOf]; omega
      · rw [decide_eq_false hin]
        have hp : ofP S.kinds k x = false := by unfold ofP; rw [decide_eq_false hin, Bool.false_and]
        rw [hp] at HSt
        simp only [Bool.false_eq_true, if_false, Nat.add_zero] at HSt
        go_wp2_with fail
        go_roundw
        case rel => exact ⟨i + 1, a0, c0, by omega, by go_num, by rw [HSt.out], by rw [HSt.out]; exact HO2⟩
        case measure => simp [intOf]; omega
    · have hk' : i = S.members.length := by omega
      subst hk'
      have HE := hide (List.take_of_length_le (Nat.le_refl S.members.length))
      rw [HE.out] at HO ⊢
      go_wp2_with fail
      go_ret
      exact ⟨_, _, rfl, HO.out.low⟩
end
end Go.Proofs.Ytfnobccminhjpaa
