/- The page's looks at names: find, found, and what each list's names are. -/
import Derived.Test.YtbdlgglbcaoakaaGreatPfP
import Derived.Test.YtbdlgglbcaoakaaGreatNum8
namespace Go.Proofs.YtbdlgglbcaoakaaGreat
open Go.RowKit Go.Shelf Go.Maps Go.WideMaps

/-- A name's place, or -1. -/
def findZ (l : List Bytes) (s : Bytes) : Int := if s ∈ l then (posB l s : Int) else -1
theorem idx_hit {l : List Bytes} {s : Bytes} {k : Nat} (hk : k < l.length) (he : l.getD k [] = s) (hn : s ∉ l.take k) : findZ l s = k := by
  have hm := take_hit hk he
  unfold findZ posB
  rw [if_pos hm, if_pos hm]
  have hd : l.drop k = s :: l.drop (k + 1) := by
    rw [List.drop_eq_getElem_cons hk]
    rw [List.getD_eq_getElem?_getD, List.getElem?_eq_getElem hk] at he
    simp at he
    rw [he]
  have e := List.take_append_drop k l
  rw [← e, List.idxOf_append, if_neg hn, hd]
  simp
  omega
theorem findZ_in {l : List Bytes} {s : Bytes} (h : s ∈ l) : findZ l s = posB l s := by unfold findZ; rw [if_pos h]
theorem findZ_out {l : List Bytes} {s : Bytes} (h : s ∉ l) : findZ l s = -1 := by unfold findZ; rw [if_neg h]

set_option maxRecDepth 100000 in
set_option maxHeartbeats 3200000 in
theorem rfind_any {w : World} {a : Option Addr} {l : List Bytes} {c : Nat} (h : At1 w a (strs l)) (hl : l.length ≤ 140737488351232) (s : Bytes) :
    Calls Tryz.prog 34 #[.slice a l.length c, str s] w fun e w' => e = .returned (.int .i64 (findZ l s)) ∧ w' = w := by
  have HA := hide h
  unfold str
  clear h
  go_enter Tryz.func34, Tryz.ntmps34
  go_wp2_with fail
  go_loop [5] (fun x => ∃ k : Nat, k ≤ l.length ∧ x = .int .i64 k ∧ Hid (s ∉ l.take k)) (fun x => l.length - (intOf x).toNat)
  case atStart => exact ⟨0, by omega, rfl, hide (by simp)⟩
  case round =>
    obtain ⟨k, hk, rfl, HK⟩ := hrel
    by_cases hlt : k < l.length
    · obtain ⟨g, o, rfl, kc⟩ := HA.out.str hlt
      by_cases he : l.getD k [] = s
      · have HP := hide (idx_hit hlt he HK.out)
        rw [he] at kc
        clear he HK
        go_wp2_with fail
        go_ret
        exact ⟨by rw [HP.out]; rfl, rfl⟩
      · have HP := hide (take_step hlt HK.out he)
        generalize l.getD k [] = x at kc he
        have hbb : (x == s) = false := beq_eq_false_iff_ne.2 he
        clear he HK
        go_wp2_with fail
        go_round
        case rel => exact ⟨k + 1, by omega, by go_num, HP⟩
        case measure => simp [intOf]; omega
    · have HP : Hid (s ∉ l) := by
        have := HK.out
        rw [List.take_of_length_le (by omega)] at this
        exact this
      go_wp2_with fail
      go_ret
      exact ⟨by rw [findZ_out HP.out]; rfl, rfl⟩

section
variable {S : StatM} {st : St9} {w : World}
set_option maxRecDepth 100000 in
set_option maxHeartbeats 3200000 in
theorem rmembers_any (h : SR w.heap.size w S st) (hl : S.members.length * 24 ≤ 140737488351232) : Calls Tryz.prog 33 #[st.agg] w fun e w' => ∃ v, e = .returned v ∧ w'.ownsRow w.heap.size 9 1 v (S.members.map (·.1)).length (strs (S.members.map (·.1))) ∧ Below w.heap.size w w' := by
  obtain ⟨tt, ht⟩ := h.title
  obtain ⟨a1, b1, f1, _, _⟩ := h.kinds.form
  obtain ⟨a2, b2, f2, _, _⟩ := h.members.form
  obtain ⟨a3, b3, f3, _, _⟩ := h.preds.form
  obtain ⟨a4, b4, f4, _, _⟩ := h.classes.form
  obtain ⟨a5, b5, f5, _, _⟩ := h.sources.form
  obtain ⟨a6, b6, f6, _, _⟩ := h.rules.form
  obtain ⟨a7, b7, f7, _, _⟩ := h.excepts.form
  obtain ⟨a8, b8, f8, _, _⟩ := h.totals.form
  obtain ⟨s0, s1, s2, s3, s4, s5, s6, s7, s8⟩ := st
  simp only at ht f1 f2 f3 f4 f5 f6 f7 f8
  subst ht f1 f2 f3 f4 f5 f6 f7 f8
  obtain ⟨iM, hiM, zM0, zM1, zM2⟩ := info_parts' infoS
  have HM := hide h.members
  have O1 : Hid (GI 9 ⟨.string tt, .slice a1 S.kinds.length b1, .slice a2 S.members.length b2, .slice a3 S.preds.length b3, .slice a4 S.classes.length b4, .slice a5 S.sources.length b5, .slice a6 S.rules.length b6, .slice a7 S.excepts.length b7, .slice a8 S.totals.length b8⟩ w 0 [] (.slice none 0 0) (w.alloc (.cells #[.string tt, .slice a1 S.kinds.length b1, .slice a2 S.members.length b2, .slice a3 S.preds.length b3, .slice a4 S.classes.length b4, .slice a5 S.sources.length b5, .slice a6 S.rules.length b6, .slice a7 S.excepts.length b7, .slice a8 S.totals.length b8] 31))) := hide (GI.start w)
  unfold St9.agg
  simp only at *
  clear h
  go_enter Tryz.func33, Tryz.ntmps33
  go_wp2_with fail
  go_loopw [3, 4] (fun mv x wr => ∃ (i : Nat) (a0 : Option Addr) (c0 : Nat), i ≤ S.members.length ∧ x = .int .i64 i ∧ mv = .slice a0 i c0 ∧ Hid (GI 9 ⟨.string tt, .slice a1 S.kinds.length b1, .slice a2 S.members.length b2, .slice a3 S.preds.length b3, .slice a4 S.classes.length b4, .slice a5 S.sources.length b5, .slice a6 S.rules.length b6, .slice a7 S.excepts.length b7, .slice a8 S.totals.length b8⟩ w i (strs ((S.members.take i).map (·.1))) (.slice a0 i c0) wr)) (fun _ x _ => S.members.length - (intOf x).toNat)
  case atStart => exact ⟨0, none, 0, by omega, rfl, rfl, O1⟩
  case round =>
    clear O1
    obtain ⟨i, a0, c0, hi, rfl, rfl, HO⟩ := hrel
    obtain ⟨-, -, x2, x3, -, x5, x6, -, x8⟩ := HO.out.cells
    simp only at x2 x3 x5 x6 x8
    by_cases hlt : i < S.members.length
    · obtain ⟨x, hx⟩ : ∃ x, S.members[i]? = some x := ⟨S.members[i], List.getElem?_eq_getElem hlt⟩
      have HT := hide (strs_snoc (f := (·.1)) hx)
      have hr := RR.keep HM.out (w' := wr) (fun g hg => HO.out.low.block g hg) (fun _ _ h => h)
      obtain ⟨g, o, rfl, hg, d0, d1, hs, hs2⟩ := at_M hr hx
      clear hr hx
      unfold str at d0
      have hrow := HO.out.row
      have HROW := hide hrow
      have HL1 : w.heap.size + 1 ≤ wr.heap.size := loc_lt HO.out.box
      clear hrow
      go_wp2_with (at_builtin; go_must (refine wpList_append_two _ rfl _ _ 22 rfl (w.heap.size + 1) 9 iM _ 1 16 Tryz.underlying22 hiM zM0 zM1 zM2 rfl (by decide) _ _ _ rfl (HROW.out.alloc _) ⟨wr.heap.size, 0, none⟩ 1 [.string ⟨x.1.toArray⟩] rfl rfl (news_at rfl) (by simp [Value.oneCell']) (by unfold maxLen; omega) (by omega) (by simp; omega) ?_); intro g4 cap4 w4 hown4 hg4)
      have hz : (wr.alloc (.cells #[.string ⟨x.1.toArray⟩] 9)).heap.size = wr.heap.size + 1 := by simp
      rw [hz] at hg4
      refine ⟨⟨i + 1, some ⟨g4, 0, none⟩, cap4, by omega, by go_num, rfl, hide (HO.out.grow (by rw [HT.out]; exact hown4) hg4)⟩, by simp [intOf]; omega⟩
    · have hk' : i = S.members.length := by omega
      subst hk'
      have HE := hide (List.take_of_length_le (Nat.le_refl S.members.length))
      rw [HE.out] at HO
      go_wp2_with fail
      go_ret
      refine ⟨_, rfl, ?_, HO.out.low⟩
      rw [List.length_map]
      exact owns_down HO.out.row (Nat.le_succ _)
set_option maxRecDepth 100000 in
set_option maxHeartbeats 3200000 in
theorem rpreds_any (h : SR w.heap.size w S st) (hl : S.preds.length * 24 ≤ 140737488351232) : Calls Tryz.prog 78 #[st.agg] w fun e w' => ∃ v, e = .returned v ∧ w'.ownsRow w.heap.size 9 1 v (S.preds.map (·.name)).length (strs (S.preds.map (·.name))) ∧ Below w.heap.size w w' := by
  obtain ⟨tt, ht⟩ := h.title
  obtain ⟨a1, b1, f1, _, _⟩ := h.kinds.form
  obtain ⟨a2, b2, f2, _, _⟩ := h.members.form
  obtain ⟨a3, b3, f3, _, _⟩ := h.preds.form
  obtain ⟨a4, b4, f4, _, _⟩ := h.classes.form
  obtain ⟨a5, b5, f5, _, _⟩ := h.sources.form
  obtain ⟨a6, b6, f6, _, _⟩ := h.rules.form
  obtain ⟨a7, b7, f7, _, _⟩ := h.excepts.form
  obtain ⟨a8, b8, f8, _, _⟩ := h.totals.form
  obtain ⟨s0, s1, s2, s3, s4, s5, s6, s7, s8⟩ := st
  simp only at ht f1 f2 f3 f4 f5 f6 f7 f8
  subst ht f1 f2 f3 f4 f5 f6 f7 f8
  obtain ⟨iM, hiM, zM0, zM1, zM2⟩ := info_parts' infoS
  have HM := hide h.preds
  have O1 : Hid (GI 9 ⟨.string tt, .slice a1 S.kinds.length b1, .slice a2 S.members.length b2, .slice a3 S.preds.length b3, .slice a4 S.classes.length b4, .slice a5 S.sources.length b5, .slice a6 S.rules.length b6, .slice a7 S.excepts.length b7, .slice a8 S.totals.length b8⟩ w 0 [] (.slice none 0 0) (w.alloc (.cells #[.string tt, .slice a1 S.kinds.length b1, .slice a2 S.members.length b2, .slice a3 S.preds.length b3, .slice a4 S.classes.length b4, .slice a5 S.sources.length b5, .slice a6 S.rules.length b6, .slice a7 S.excepts.length b7, .slice a8 S.totals.length b8] 31))) := hide (GI.start w)
  unfold St9.agg
  simp only at *
  clear h
  go_enter Tryz.func78, Tryz.ntmps78
  go_wp2_with fail
  go_loopw [3, 4] (fun mv x wr => ∃ (i : Nat) (a0 : Option Addr) (c0 : Nat), i ≤ S.preds.length ∧ x = .int .i64 i ∧ mv = .slice a0 i c0 ∧ Hid (GI 9 ⟨.string tt, .slice a1 S.kinds.length b1, .slice a2 S.members.length b2, .slice a3 S.preds.length b3, .slice a4 S.classes.length b4, .slice a5 S.sources.length b5, .slice a6 S.rules.length b6, .slice a7 S.excepts.length b7, .slice a8 S.totals.length b8⟩ w i (strs ((S.preds.take i).map (·.name))) (.slice a0 i c0) wr)) (fun _ x _ => S.preds.length - (intOf x).toNat)
  case atStart => exact ⟨0, none, 0, by omega, rfl, rfl, O1⟩
  case round =>
    clear O1
    obtain ⟨i, a0, c0, hi, rfl, rfl, HO⟩ := hrel
    obtain ⟨-, -, x2, x3, -, x5, x6, -, x8⟩ := HO.out.cells
    simp only at x2 x3 x5 x6 x8
    by_cases hlt : i < S.preds.length
    · obtain ⟨x, hx⟩ : ∃ x, S.preds[i]? = some x := ⟨S.preds[i], List.getElem?_eq_getElem hlt⟩
      have HT := hide (strs_snoc (f := (·.name)) hx)
      have hr := RR.keep HM.out (w' := wr) (fun g hg => HO.out.low.block g hg) (fun _ _ h => cPred.keep (fun g hg => HO.out.low.block g hg) h)
      obtain ⟨g, o, ka, kc, va, vc, rfl, hg, d0, -, -, -, hs, -, -⟩ := at_P hr hx
      clear hr hx
      unfold str at d0
      have hrow := HO.out.row
      have HROW := hide hrow
      have HL1 : w.heap.size + 1 ≤ wr.heap.size := loc_lt HO.out.box
      clear hrow
      go_wp2_with (at_builtin; go_must (refine wpList_append_two _ rfl _ _ 22 rfl (w.heap.size + 1) 9 iM _ 1 16 Tryz.underlying22 hiM zM0 zM1 zM2 rfl (by decide) _ _ _ rfl (HROW.out.alloc _) ⟨wr.heap.size, 0, none⟩ 1 [.string ⟨x.name.toArray⟩] rfl rfl (news_at rfl) (by simp [Value.oneCell']) (by unfold maxLen; omega) (by omega) (by simp; omega) ?_); intro g4 cap4 w4 hown4 hg4)
      have hz : (wr.alloc (.cells #[.string ⟨x.name.toArray⟩] 9)).heap.size = wr.heap.size + 1 := by simp
      rw [hz] at hg4
      refine ⟨⟨i + 1, some ⟨g4, 0, none⟩, cap4, by omega, by go_num, rfl, hide (HO.out.grow (by rw [HT.out]; exact hown4) hg4)⟩, by simp [intOf]; omega⟩
    · have hk' : i = S.preds.length := by omega
      subst hk'
      have HE := hide (List.take_of_length_le (Nat.le_refl S.preds.length))
      rw [HE.out] at HO
      go_wp2_with fail
      go_ret
      refine ⟨_, rfl, ?_, HO.out.low⟩
      rw [List.length_map]
      exact owns_down HO.out.row (Nat.le_succ _)
set_option maxRecDepth 100000 in
set_option maxHeartbeats 3200000 in
theorem rschemas_any (h : SR w.heap.size w S st) (hl : S.rules.length * 24 ≤ 140737488351232) : Calls Tryz.prog 82 #[st.agg] w fun e w' => ∃ v, e = .returned v ∧ w'.ownsRow w.heap.size 9 1 v (S.rules.map (·.name)).length (strs (S.rules.map (·.name))) ∧ Below w.heap.size w w' := by
  obtain ⟨tt, ht⟩ := h.title
  obtain ⟨a1, b1, f1, _, _⟩ := h.kinds.form
  obtain ⟨a2, b2, f2, _, _⟩ := h.members.form
  obtain ⟨a3, b3, f3, _, _⟩ := h.preds.form
  obtain ⟨a4, b4, f4, _, _⟩ := h.classes.form
  obtain ⟨a5, b5, f5, _, _⟩ := h.sources.form
  obtain ⟨a6, b6, f6, _, _⟩ := h.rules.form
  obtain ⟨a7, b7, f7, _, _⟩ := h.excepts.form
  obtain ⟨a8, b8, f8, _, _⟩ := h.totals.form
  obtain ⟨s0, s1, s2, s3, s4, s5, s6, s7, s8⟩ := st
  simp only at ht f1 f2 f3 f4 f5 f6 f7 f8
  subst ht f1 f2 f3 f4 f5 f6 f7 f8
  obtain ⟨iM, hiM, zM0, zM1, zM2⟩ := info_parts' infoS
  have HM := hide h.rules
  have O1 : Hid (GI 9 ⟨.string tt, .slice a1 S.kinds.length b1, .slice a2 S.members.length b2, .slice a3 S.preds.length b3, .slice a4 S.classes.length b4, .slice a5 S.sources.length b5, .slice a6 S.rules.length b6, .slice a7 S.excepts.length b7, .slice a8 S.totals.length b8⟩ w 0 [] (.slice none 0 0) (w.alloc (.cells #[.string tt, .slice a1 S.kinds.length b1, .slice a2 S.members.length b2, .slice a3 S.preds.length b3, .slice a4 S.classes.length b4, .slice a5 S.sources.length b5, .slice a6 S.rules.length b6, .slice a7 S.excepts.length b7, .slice a8 S.totals.length b8] 31))) := hide (GI.start w)
  unfold St9.agg
  simp only at *
  clear h
  go_enter Tryz.func82, Tryz.ntmps82
  go_wp2_with fail
  go_loopw [3, 4] (fun mv x wr => ∃ (i : Nat) (a0 : Option Addr) (c0 : Nat), i ≤ S.rules.length ∧ x = .int .i64 i ∧ mv = .slice a0 i c0 ∧ Hid (GI 9 ⟨.string tt, .slice a1 S.kinds.length b1, .slice a2 S.members.length b2, .slice a3 S.preds.length b3, .slice a4 S.classes.length b4, .slice a5 S.sources.length b5, .slice a6 S.rules.length b6, .slice a7 S.excepts.length b7, .slice a8 S.totals.length b8⟩ w i (strs ((S.rules.take i).map (·.name))) (.slice a0 i c0) wr)) (fun _ x _ => S.rules.length - (intOf x).toNat)
  case atStart => exact ⟨0, none, 0, by omega, rfl, rfl, O1⟩
  case round =>
    clear O1
    obtain ⟨i, a0, c0, hi, rfl, rfl, HO⟩ := hrel
    obtain ⟨-, -, x2, x3, -, x5, x6, -, x8⟩ := HO.out.cells
    simp only at x2 x3 x5 x6 x8
    by_cases hlt : i < S.rules.length
    · obtain ⟨x, hx⟩ : ∃ x, S.rules[i]? = some x := ⟨S.rules[i], List.getElem?_eq_getElem hlt⟩
      have HT := hide (strs_snoc (f := (·.name)) hx)
      have hr := RR.keep HM.out (w' := wr) (fun g hg => HO.out.low.block g hg) (fun _ _ h => cRule.keep (fun g hg => HO.out.low.block g hg) h)
      obtain ⟨g, o, ba, bc, ka, kc, rfl, hg, d0, -⟩ := at_R hr hx
      clear hr hx
      unfold str at d0
      have hrow := HO.out.row
      have HROW := hide hrow
      have HL1 : w.heap.size + 1 ≤ wr.heap.size := loc_lt HO.out.box
      clear hrow
      go_wp2_with (at_builtin; go_must (refine wpList_append_two _ rfl _ _ 22 rfl (w.heap.size + 1) 9 iM _ 1 16 Tryz.underlying22 hiM zM0 zM1 zM2 rfl (by decide) _ _ _ rfl (HROW.out.alloc _) ⟨wr.heap.size, 0, none⟩ 1 [.string ⟨x.name.toArray⟩] rfl rfl (news_at rfl) (by simp [Value.oneCell']) (by unfold maxLen; omega) (by omega) (by simp; omega) ?_); intro g4 cap4 w4 hown4 hg4)
      have hz : (wr.alloc (.cells #[.string ⟨x.name.toArray⟩] 9)).heap.size = wr.heap.size + 1 := by simp
      rw [hz] at hg4
      refine ⟨⟨i + 1, some ⟨g4, 0, none⟩, cap4, by omega, by go_num, rfl, hide (HO.out.grow (by rw [HT.out]; exact hown4) hg4)⟩, by simp [intOf]; omega⟩
    · have hk' : i = S.rules.length := by omega
      subst hk'
      have HE := hide (List.take_of_length_le (Nat.le_refl S.rules.length))
      rw [HE.out] at HO
      go_wp2_with fail
      go_ret
      refine ⟨_, rfl, ?_, HO.out.low⟩
      rw [List.length_map]
      exact owns_down HO.out.row (Nat.le_succ _)
set_option maxRecDepth 100000 in
set_option maxHeartbeats 3200000 in
theorem rsources_any (h : SR w.heap.size w S st) (hl : S.sources.length * 24 ≤ 140737488351232) : Calls Tryz.prog 37 #[st.agg] w fun e w' => ∃ v, e = .returned v ∧ w'.ownsRow w.heap.size 9 1 v (S.sources.map (·.1)).length (strs (S.sources.map (·.1))) ∧ Below w.heap.size w w' := by
  obtain ⟨tt, ht⟩ := h.title
  obtain ⟨a1, b1, f1, _, _⟩ := h.kinds.form
  obtain ⟨a2, b2, f2, _, _⟩ := h.members.form
  obtain ⟨a3, b3, f3, _, _⟩ := h.preds.form
  obtain ⟨a4, b4, f4, _, _⟩ := h.classes.form
  obtain ⟨a5, b5, f5, _, _⟩ := h.sources.form
  obtain ⟨a6, b6, f6, _, _⟩ := h.rules.form
  obtain ⟨a7, b7, f7, _, _⟩ := h.excepts.form
  obtain ⟨a8, b8, f8, _, _⟩ := h.totals.form
  obtain ⟨s0, s1, s2, s3, s4, s5, s6, s7, s8⟩ := st
  simp only at ht f1 f2 f3 f4 f5 f6 f7 f8
  subst ht f1 f2 f3 f4 f5 f6 f7 f8
  obtain ⟨iM, hiM, zM0, zM1, zM2⟩ := info_parts' infoS
  have HM := hide h.sources
  have O1 : Hid (GI 9 ⟨.string tt, .slice a1 S.kinds.length b1, .slice a2 S.members.length b2, .slice a3 S.preds.length b3, .slice a4 S.classes.length b4, .slice a5 S.sources.length b5, .slice a6 S.rules.length b6, .slice a7 S.excepts.length b7, .slice a8 S.totals.length b8⟩ w 0 [] (.slice none 0 0) (w.alloc (.cells #[.string tt, .slice a1 S.kinds.length b1, .slice a2 S.members.length b2, .slice a3 S.preds.length b3, .slice a4 S.classes.length b4, .slice a5 S.sources.length b5, .slice a6 S.rules.length b6, .slice a7 S.excepts.length b7, .slice a8 S.totals.length b8] 31))) := hide (GI.start w)
  unfold St9.agg
  simp only at *
  clear h
  go_enter Tryz.func37, Tryz.ntmps37
  go_wp2_with fail
  go_loopw [3, 4] (fun mv x wr => ∃ (i : Nat) (a0 : Option Addr) (c0 : Nat), i ≤ S.sources.length ∧ x = .int .i64 i ∧ mv = .slice a0 i c0 ∧ Hid (GI 9 ⟨.string tt, .slice a1 S.kinds.length b1, .slice a2 S.members.length b2, .slice a3 S.preds.length b3, .slice a4 S.classes.length b4, .slice a5 S.sources.length b5, .slice a6 S.rules.length b6, .slice a7 S.excepts.length b7, .slice a8 S.totals.length b8⟩ w i (strs ((S.sources.take i).map (·.1))) (.slice a0 i c0) wr)) (fun _ x _ => S.sources.length - (intOf x).toNat)
  case atStart => exact ⟨0, none, 0, by omega, rfl, rfl, O1⟩
  case round =>
    clear O1
    obtain ⟨i, a0, c0, hi, rfl, rfl, HO⟩ := hrel
    obtain ⟨-, -, x2, x3, -, x5, x6, -, x8⟩ := HO.out.cells
    simp only at x2 x3 x5 x6 x8
    by_cases hlt : i < S.sources.length
    · obtain ⟨x, hx⟩ : ∃ x, S.sources[i]? = some x := ⟨S.sources[i], List.getElem?_eq_getElem hlt⟩
      have HT := hide (strs_snoc (f := (·.1)) hx)
      have hr := RR.keep HM.out (w' := wr) (fun g hg => HO.out.low.block g hg) (fun _ _ h => h)
      obtain ⟨g, o, rfl, hg, d0, d1, hs⟩ := at_Src hr hx
      clear hr hx
      unfold str at d0
      have hrow := HO.out.row
      have HROW := hide hrow
      have HL1 : w.heap.size + 1 ≤ wr.heap.size := loc_lt HO.out.box
      clear hrow
      go_wp2_with (at_builtin; go_must (refine wpList_append_two _ rfl _ _ 22 rfl (w.heap.size + 1) 9 iM _ 1 16 Tryz.underlying22 hiM zM0 zM1 zM2 rfl (by decide) _ _ _ rfl (HROW.out.alloc _) ⟨wr.heap.size, 0, none⟩ 1 [.string ⟨x.1.toArray⟩] rfl rfl (news_at rfl) (by simp [Value.oneCell']) (by unfold maxLen; omega) (by omega) (by simp; omega) ?_); intro g4 cap4 w4 hown4 hg4)
      have hz : (wr.alloc (.cells #[.string ⟨x.1.toArray⟩] 9)).heap.size = wr.heap.size + 1 := by simp
      rw [hz] at hg4
      refine ⟨⟨i + 1, some ⟨g4, 0, none⟩, cap4, by omega, by go_num, rfl, hide (HO.out.grow (by rw [HT.out]; exact hown4) hg4)⟩, by simp [intOf]; omega⟩
    · have hk' : i = S.sources.length := by omega
      subst hk'
      have HE := hide (List.take_of_length_le (Nat.le_refl S.sources.length))
      rw [HE.out] at HO
      go_wp2_with fail
      go_ret
      refine ⟨_, rfl, ?_, HO.out.low⟩
      rw [List.length_map]
      exact owns_down HO.out.row (Nat.le_succ _)
set_option maxRecDepth 100000 in
set_option maxHeartbeats 3200000 in
theorem rtotals_any (h : SR w.heap.size w S st) (hl : S.totals.length * 24 ≤ 140737488351232) : Calls Tryz.prog 86 #[st.agg] w fun e w' => ∃ v, e = .returned v ∧ w'.ownsRow w.heap.size 9 1 v (S.totals.map (·.name)).length (strs (S.totals.map (·.name))) ∧ Below w.heap.size w w' := by
  obtain ⟨tt, ht⟩ := h.title
  obtain ⟨a1, b1, f1, _, _⟩ := h.kinds.form
  obtain ⟨a2, b2, f2, _, _⟩ := h.members.form
  obtain ⟨a3, b3, f3, _, _⟩ := h.preds.form
  obtain ⟨a4, b4, f4, _, _⟩ := h.classes.form
  obtain ⟨a5, b5, f5, _, _⟩ := h.sources.form
  obtain ⟨a6, b6, f6, _, _⟩ := h.rules.form
  obtain ⟨a7, b7, f7, _, _⟩ := h.excepts.form
  obtain ⟨a8, b8, f8, _, _⟩ := h.totals.form
  obtain ⟨s0, s1, s2, s3, s4, s5, s6, s7, s8⟩ := st
  simp only at ht f1 f2 f3 f4 f5 f6 f7 f8
  subst ht f1 f2 f3 f4 f5 f6 f7 f8
  obtain ⟨iM, hiM, zM0, zM1, zM2⟩ := info_parts' infoS
  have HM := hide h.totals
  have O1 : Hid (GI 9 ⟨.string tt, .slice a1 S.kinds.length b1, .slice a2 S.members.length b2, .slice a3 S.preds.length b3, .slice a4 S.classes.length b4, .slice a5 S.sources.length b5, .slice a6 S.rules.length b6, .slice a7 S.excepts.length b7, .slice a8 S.totals.length b8⟩ w 0 [] (.slice none 0 0) (w.alloc (.cells #[.string tt, .slice a1 S.kinds.length b1, .slice a2 S.members.length b2, .slice a3 S.preds.length b3, .slice a4 S.classes.length b4, .slice a5 S.sources.length b5, .slice a6 S.rules.length b6, .slice a7 S.excepts.length b7, .slice a8 S.totals.length b8] 31))) := hide (GI.start w)
  unfold St9.agg
  simp only at *
  clear h
  go_enter Tryz.func86, Tryz.ntmps86
  go_wp2_with fail
  go_loopw [3, 4] (fun mv x wr => ∃ (i : Nat) (a0 : Option Addr) (c0 : Nat), i ≤ S.totals.length ∧ x = .int .i64 i ∧ mv = .slice a0 i c0 ∧ Hid (GI 9 ⟨.string tt, .slice a1 S.kinds.length b1, .slice a2 S.members.length b2, .slice a3 S.preds.length b3, .slice a4 S.classes.length b4, .slice a5 S.sources.length b5, .slice a6 S.rules.length b6, .slice a7 S.excepts.length b7, .slice a8 S.totals.length b8⟩ w i (strs ((S.totals.take i).map (·.name))) (.slice a0 i c0) wr)) (fun _ x _ => S.totals.length - (intOf x).toNat)
  case atStart => exact ⟨0, none, 0, by omega, rfl, rfl, O1⟩
  case round =>
    clear O1
    obtain ⟨i, a0, c0, hi, rfl, rfl, HO⟩ := hrel
    obtain ⟨-, -, x2, x3, -, x5, x6, -, x8⟩ := HO.out.cells
    simp only at x2 x3 x5 x6 x8
    by_cases hlt : i < S.totals.length
    · obtain ⟨x, hx⟩ : ∃ x, S.totals[i]? = some x := ⟨S.totals[i], List.getElem?_eq_getElem hlt⟩
      have HT := hide (strs_snoc (f := (·.name)) hx)
      have hr := RR.keep HM.out (w' := wr) (fun g hg => HO.out.low.block g hg) (fun _ _ h => cTotal.keep (fun g hg => HO.out.low.block g hg) h)
      obtain ⟨g, o, ka, kc, rfl, hg, d0, -⟩ := at_T hr hx
      clear hr hx
      unfold str at d0
      have hrow := HO.out.row
      have HROW := hide hrow
      have HL1 : w.heap.size + 1 ≤ wr.heap.size := loc_lt HO.out.box
      clear hrow
      go_wp2_with (at_builtin; go_must (refine wpList_append_two _ rfl _ _ 22 rfl (w.heap.size + 1) 9 iM _ 1 16 Tryz.underlying22 hiM zM0 zM1 zM2 rfl (by decide) _ _ _ rfl (HROW.out.alloc _) ⟨wr.heap.size, 0, none⟩ 1 [.string ⟨x.name.toArray⟩] rfl rfl (news_at rfl) (by simp [Value.oneCell']) (by unfold maxLen; omega) (by omega) (by simp; omega) ?_); intro g4 cap4 w4 hown4 hg4)
      have hz : (wr.alloc (.cells #[.string ⟨x.name.toArray⟩] 9)).heap.size = wr.heap.size + 1 := by simp
      rw [hz] at hg4
      refine ⟨⟨i + 1, some ⟨g4, 0, none⟩, cap4, by omega, by go_num, rfl, hide (HO.out.grow (by rw [HT.out]; exact hown4) hg4)⟩, by simp [intOf]; omega⟩
    · have hk' : i = S.totals.length := by omega
      subst hk'
      have HE := hide (List.take_of_length_le (Nat.le_refl S.totals.length))
      rw [HE.out] at HO
      go_wp2_with fail
      go_ret
      refine ⟨_, rfl, ?_, HO.out.low⟩
      rw [List.length_map]
      exact owns_down HO.out.row (Nat.le_succ _)
end
end Go.Proofs.YtbdlgglbcaoakaaGreat
