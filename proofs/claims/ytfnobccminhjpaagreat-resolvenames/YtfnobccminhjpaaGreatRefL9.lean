/- The page's Sorts, Of, Class. -/
import Derived.Test.YtfnobccminhjpaaGreatRefN9
import Derived.Test.YtfnobccminhjpaaGreatRaw9
namespace Go.Proofs.YtfnobccminhjpaaGreat
open Go.RowKit Go.Shelf Go.Maps Go.WideMaps

theorem infoO : (Tryz.prog.info? 53).map (fun i => (i.zero, i.size, i.bytes)) = some (some (.int .i64 0), 1, 8) := by kernel_rfl
theorem ints_snoc {α : Type} {f : α → Int} {l : List α} {i : Nat} {x : α} (hx : l[i]? = some x) : ints ((l.take (i + 1)).map f) = ints ((l.take i).map f) ++ [.int .i64 (f x)] := by
  rw [take_snoc hx]
  unfold ints
  simp
/-- Is a member of that kind? -/
def ofP (kinds : List Bytes) (k : Int) (m : Bytes × Bytes) : Bool := decide (m.2 ∈ kinds) && decide ((posB kinds m.2 : Int) = k)
def ofL (kinds : List Bytes) (k : Int) (l : List (Bytes × Bytes)) : List Int := (l.zipIdx.filter fun x => ofP kinds k x.1).map fun x => (x.2 : Int)
theorem ofL_step {kinds : List Bytes} {k : Int} {l : List (Bytes × Bytes)} {i : Nat} {x : Bytes × Bytes} (hx : l[i]? = some x) : ofL kinds k (l.take (i + 1)) = ofL kinds k (l.take i) ++ (if ofP kinds k x then [(i : Int)] else []) := by
  have hi : i < l.length := by
    apply Classical.byContradiction
    intro hn
    rw [List.getElem?_eq_none (by omega)] at hx
    cases hx
  have hl : (l.take i).length = i := by simp; omega
  unfold ofL
  rw [take_snoc hx, List.zipIdx_append, List.filter_append, List.map_append, hl]
  congr 1
  by_cases h : ofP kinds k x = true <;> simp [h, List.zipIdx]
theorem ofL_le {kinds : List Bytes} {k : Int} {l : List (Bytes × Bytes)} (i : Nat) : (ofL kinds k (l.take i)).length ≤ i := by
  unfold ofL
  rw [List.length_map]
  refine Nat.le_trans (List.length_filter_le _ _) ?_
  simp
  omega
theorem ofP_find (kinds : List Bytes) (k : Int) (m : Bytes × Bytes) : ofP kinds k m = (decide (0 ≤ findZ kinds m.2) && decide (findZ kinds m.2 = k)) := by
  unfold ofP
  by_cases h : m.2 ∈ kinds
  · rw [findZ_in h, decide_eq_true h]
    have : decide (0 ≤ (posB kinds m.2 : Int)) = true := decide_eq_true (by omega)
    rw [this]
  · rw [findZ_out h, decide_eq_false h]; rfl
/-- Of each predicate its class. -/
def clsL (cs : List (List Bytes)) (l : List PredM) : List Int := l.map fun p => clsF 0 cs p.name
theorem clsF_end (cs : List (List Bytes)) (s : Bytes) : clsF cs.length (cs.drop cs.length) s = -1 := by rw [List.drop_length]; rfl
section
variable {S : StatM} {st : St9} {w : World}
set_option maxRecDepth 100000 in
set_option maxHeartbeats 3200000 in
theorem rSorts_any (h : SR w.heap.size w S st) (hl : S.preds.length * 24 ≤ 140737488351232) : Calls Tryz.prog 30 #[st.agg] w fun e w' => ∃ v, e = .returned v ∧ w'.ownsRow w.heap.size 53 1 v S.preds.length (ints (S.preds.map (·.sort))) ∧ Below w.heap.size w w' := by
  obtain ⟨tt, ht⟩ := h.title
  obtain ⟨a1, b1, f1, _, _⟩ := h.kinds.form
  obtain ⟨a2, b2, f2, _, _⟩ := h.members.form
  obtain ⟨a3, b3, f3, _, _⟩ := h.preds.form
  obtain ⟨a4, b4, f4, _, _⟩ := h.classes.form
  obtain ⟨a5, b5, f5, _, _⟩ := h.sources.form
  obtain ⟨a6, b6, f6, _, _⟩ := h.rules.form
  obtain ⟨a7, b7, f7, _, _⟩ := h.excepts.form
  obtain ⟨a8, b8, f8, _, _⟩ := h.totals.form
  obtain ⟨s0, s1, s2, s3, s4, s5, s6, s7, s8⟩ := st
  simp only at ht f1 f2 f3 f4 f5 f6 f7 f8
  subst ht f1 f2 f3 f4 f5 f6 f7 f8
  obtain ⟨iM, hiM, zM0, zM1, zM2⟩ := info_parts' infoO
  have HM := hide h.preds
  have O1 : Hid (GI 53 ⟨.string tt, .slice a1 S.kinds.length b1, .slice a2 S.members.length b2, .slice a3 S.preds.length b3, .slice a4 S.classes.length b4, .slice a5 S.sources.length b5, .slice a6 S.rules.length b6, .slice a7 S.excepts.length b7, .slice a8 S.totals.length b8⟩ w 0 [] (.slice none 0 0) (w.alloc (.cells #[.string tt, .slice a1 S.kinds.length b1, .slice a2 S.members.length b2, .slice a3 S.preds.length b3, .slice a4 S.classes.length b4, .slice a5 S.sources.length b5, .slice a6 S.rules.length b6, .slice a7 S.excepts.length b7, .slice a8 S.totals.length b8] 31))) := hide (GI.start w)
  unfold St9.agg
  simp only at *
  clear h
  go_enter Tryz.func30, Tryz.ntmps30
  go_wp2_with fail
  go_loopw [3, 4] (fun mv x wr => ∃ (i : Nat) (a0 : Option Addr) (c0 : Nat), i ≤ S.preds.length ∧ x = .int .i64 i ∧ mv = .slice a0 i c0 ∧ Hid (GI 53 ⟨.string tt, .slice a1 S.kinds.length b1, .slice a2 S.members.length b2, .slice a3 S.preds.length b3, .slice a4 S.classes.length b4, .slice a5 S.sources.length b5, .slice a6 S.rules.length b6, .slice a7 S.excepts.length b7, .slice a8 S.totals.length b8⟩ w i (ints ((S.preds.take i).map (·.sort))) (.slice a0 i c0) wr)) (fun _ x _ => S.preds.length - (intOf x).toNat)
  case atStart => exact ⟨0, none, 0, by omega, rfl, rfl, O1⟩
  case round =>
    clear O1
    obtain ⟨i, a0, c0, hi, rfl, rfl, HO⟩ := hrel
    obtain ⟨-, -, -, x3, -, -, -, -, -⟩ := HO.out.cells
    simp only at x3
    by_cases hlt : i < S.preds.length
    · obtain ⟨x, hx⟩ : ∃ x, S.preds[i]? = some x := ⟨S.preds[i], List.getElem?_eq_getElem hlt⟩
      have HT := hide (ints_snoc (f := (·.sort)) hx)
      have hr := RR.keep HM.out (w' := wr) (fun g hg => HO.out.low.block g hg) (fun _ _ h => cPred.keep (fun g hg => HO.out.low.block g hg) h)
      obtain ⟨g, o, ka, kc, va, vc, rfl, hg, -, d1, -⟩ := at_P hr hx
      clear hr hx
      have HROW := hide HO.out.row
      have HL1 : w.heap.size + 1 ≤ wr.heap.size := loc_lt HO.out.box
      go_wp2_with (at_builtin; go_must (refine wpList_append_two _ rfl _ _ 51 rfl (w.heap.size + 1) 53 iM _ 1 8 Tryz.underlying51 hiM zM0 zM1 zM2 rfl (by decide) _ _ _ rfl (HROW.out.alloc _) ⟨wr.heap.size, 0, none⟩ 1 [.int .i64 x.sort] rfl rfl (news_at rfl) (by simp [Value.oneCell']) (by unfold maxLen; omega) (by omega) (by simp; omega) ?_); intro g4 cap4 w4 hown4 hg4)
      have hz : (wr.alloc (.cells #[.int .i64 x.sort] 53)).heap.size = wr.heap.size + 1 := by simp
      rw [hz] at hg4
      refine ⟨⟨i + 1, some ⟨g4, 0, none⟩, cap4, by omega, by go_num, rfl, hide (HO.out.grow (by rw [HT.out]; exact hown4) hg4)⟩, by simp [intOf]; omega⟩
    · have hk' : i = S.preds.length := by omega
      subst hk'
      have HE := hide (List.take_of_length_le (Nat.le_refl S.preds.length))
      rw [HE.out] at HO
      go_wp2_with fail
      go_ret
      exact ⟨_, rfl, owns_down HO.out.row (Nat.le_succ _), HO.out.low⟩
set_option maxRecDepth 100000 in
set_option maxHeartbeats 6400000 in
theorem rOf_any (h : SR w.heap.size w S st) (hl : S.members.length * 24 ≤ 140737488351232) (k : Int) : Calls Tryz.prog 34 #[st.agg, .int .i64 k] w fun e w' => ∃ v, e = .returned v ∧ w'.ownsRow w.heap.size 3 1 v (ofL S.kinds k S.members).length (ints (ofL S.kinds k S.members)) ∧ Below w.heap.size w w' := by
  have hkl : S.kinds.length ≤ 140737488351232 := by obtain ⟨_, _, _, _, h9⟩ := h.kinds.form; exact h9
  obtain ⟨tt, ht⟩ := h.title
  obtain ⟨a1, b1, f1, _, _⟩ := h.kinds.form
  obtain ⟨a2, b2, f2, _, _⟩ := h.members.form
  obtain ⟨a3, b3, f3, _, _⟩ := h.preds.form
  obtain ⟨a4, b4, f4, _, _⟩ := h.classes.form
  obtain ⟨a5, b5, f5, _, _⟩ := h.sources.form
  obtain ⟨a6, b6, f6, _, _⟩ := h.rules.form
  obtain ⟨a7, b7, f7, _, _⟩ := h.excepts.form
  obtain ⟨a8, b8, f8, _, _⟩ := h.totals.form
  obtain ⟨s0, s1, s2, s3, s4, s5, s6, s7, s8⟩ := st
  simp only at ht f1 f2 f3 f4 f5 f6 f7 f8
  subst ht f1 f2 f3 f4 f5 f6 f7 f8
  obtain ⟨iM, hiM, zM0, zM1, zM2⟩ := info_parts' infoI
  have HM := hide h.members
  have HKS := hide h.kinds
  have O1 : Hid (GI 3 ⟨.string tt, .slice a1 S.kinds.length b1, .slice a2 S.members.length b2, .slice a3 S.preds.length b3, .slice a4 S.classes.length b4, .slice a5 S.sources.length b5, .slice a6 S.rules.length b6, .slice a7 S.excepts.length b7, .slice a8 S.totals.length b8⟩ w 0 [] (.slice none 0 0) (w.alloc (.cells #[.string tt, .slice a1 S.kinds.length b1, .slice a2 S.members.length b2, .slice a3 S.preds.length b3, .slice a4 S.classes.length b4, .slice a5 S.sources.length b5, .slice a6 S.rules.length b6, .slice a7 S.excepts.length b7, .slice a8 S.totals.length b8] 31))) := hide (GI.start w)
  unfold St9.agg
  simp only at *
  clear h
  go_enter Tryz.func34, Tryz.ntmps34
  go_wp2_with fail
  go_loopw [5, 6] (fun mv x wr => ∃ (i : Nat) (a0 : Option Addr) (c0 : Nat), i ≤ S.members.length ∧ x = .int .i64 i ∧ mv = .slice a0 (ofL S.kinds k (S.members.take i)).length c0 ∧ Hid (GI 3 ⟨.string tt, .slice a1 S.kinds.length b1, .slice a2 S.members.length b2, .slice a3 S.preds.length b3, .slice a4 S.classes.length b4, .slice a5 S.sources.length b5, .slice a6 S.rules.length b6, .slice a7 S.excepts.length b7, .slice a8 S.totals.length b8⟩ w (ofL S.kinds k (S.members.take i)).length (ints (ofL S.kinds k (S.members.take i))) (.slice a0 (ofL S.kinds k (S.members.take i)).length c0) wr)) (fun _ x _ => S.members.length - (intOf x).toNat)
  case atStart => exact ⟨0, none, 0, by omega, rfl, rfl, O1⟩
  case round =>
    clear O1
    obtain ⟨i, a0, c0, hi, rfl, rfl, HO⟩ := hrel
    obtain ⟨-, x1, x2, -, -, -, -, -, -⟩ := HO.out.cells
    simp only at x1 x2
    by_cases hlt : i < S.members.length
    · obtain ⟨x, hx⟩ : ∃ x, S.members[i]? = some x := ⟨S.members[i], List.getElem?_eq_getElem hlt⟩
      have HSt := hide (ofL_step (kinds := S.kinds) (k := k) hx)
      have HLe := ofL_le (kinds := S.kinds) (k := k) (l := S.members) i
      have hr := RR.keep HM.out (w' := wr) (fun g hg => HO.out.low.block g hg) (fun _ _ h => h)
      obtain ⟨g, o, rfl, hg, d0, d1, hs, hs2⟩ := at_M hr hx
      clear hr hx hg
      unfold str at d0 d1
      have HP := hide (ofP_find S.kinds k x)
      have CF := hide (fun q => rfind_any (w := wr.drewN q) (c := b1) (At1.below (Strs.at1 (Strs.keep (w' := wr) (fun g hg => HO.out.low.block g hg) HKS.out)) (below_drewN wr q)) hkl x.2)
      unfold str at CF
      generalize findZ S.kinds x.2 = z at *
      generalize ofL S.kinds k (S.members.take i) = L at *
      go_upto_region 5 with fail
      go_quiet ((go_at_call 59; exact Calls.quiet_of_same (CF.out _)))
      rename Nat => q
      have HOq := hide (HO.out.below (below_drewN wr q))
      clear CF HO x1 x2 d0 d1
      generalize wr.drewN q = wd at *
      have HROW := hide HOq.out.row
      have HL1 : w.heap.size + 1 ≤ wd.heap.size := loc_lt HOq.out.box
      by_cases h0 : 0 ≤ z
      · by_cases h1 : z = k
        · have hp : ofP S.kinds k x = true := by rw [HP.out, decide_eq_true h0, decide_eq_true h1]; rfl
          have hbq : (z == k) = true := by simpa using h1
          rw [hp] at HSt
          simp only [if_true] at HSt
          clear hp h1
          go_wp2_with (at_builtin; go_must (refine wpList_append_two _ rfl _ _ 38 rfl (w.heap.size + 1) 3 iM _ 1 8 Tryz.underlying38 hiM zM0 zM1 zM2 rfl (by decide) _ _ _ rfl (HROW.out.alloc _) ⟨wd.heap.size, 0, none⟩ 1 [.int .i64 i] rfl rfl (news_at rfl) (by simp [Value.oneCell']) (by unfold maxLen; omega) (by omega) (by simp; omega) ?_); intro g4 cap4 w4 hown4 hg4)
          have hz : (wd.alloc (.cells #[.int .i64 (i : Int)] 3)).heap.size = wd.heap.size + 1 := by simp
          rw [hz] at hg4
          have HK2 := hide (HOq.out.grow hown4 hg4)
          have e1 : (L ++ [(i : Int)]).length = L.length + 1 := by simp
          have e2 : ints (L ++ [(i : Int)]) = ints L ++ [.int .i64 i] := by unfold ints; simp
          refine ⟨⟨i + 1, some ⟨g4, 0, none⟩, cap4, by omega, by go_num, by rw [HSt.out, e1], ?_⟩, by simp [intOf]; omega⟩
          rw [HSt.out, e1, e2]
          exact HK2
        · have hp : ofP S.kinds k x = false := by rw [HP.out, decide_eq_false h1, Bool.and_false]
          have hbq : (z == k) = false := by simpa using h1
          rw [hp] at HSt
          simp only [Bool.false_eq_true, if_false, List.append_nil] at HSt
          clear hp h1
          go_wp2_with fail
          go_roundw
          case rel => exact ⟨i + 1, a0, c0, by omega, by go_num, by rw [HSt.out], by rw [HSt.out]; exact HOq⟩
          case measure => simp [intOf]; omega
      · have hp : ofP S.kinds k x = false := by rw [HP.out, decide_eq_false h0, Bool.false_and]
        rw [hp] at HSt
        simp only [Bool.false_eq_true, if_false, List.append_nil] at HSt
        clear hp
        go_wp2_with fail
        go_roundw
        case rel => exact ⟨i + 1, a0, c0, by omega, by go_num, by rw [HSt.out], by rw [HSt.out]; exact HOq⟩
        case measure => simp [intOf]; omega
    · have hk' : i = S.members.length := by omega
      subst hk'
      have HE := hide (List.take_of_length_le (Nat.le_refl S.members.length))
      rw [HE.out] at HO ⊢
      go_wp2_with fail
      go_ret
      exact ⟨_, rfl, owns_down HO.out.row (Nat.le_succ _), HO.out.low⟩
set_option maxRecDepth 100000 in
set_option maxHeartbeats 6400000 in
theorem rClass_any (h : SR w.heap.size w S st) (hl : S.preds.length * 24 ≤ 140737488351232) : Calls Tryz.prog 32 #[st.agg] w fun e w' => ∃ v, e = .returned v ∧ w'.ownsRow w.heap.size 3 1 v S.preds.length (ints (clsL S.classes S.preds)) ∧ Below w.heap.size w w' := by
  have hcl : S.classes.length ≤ 140737488351232 := by obtain ⟨_, _, _, _, h9⟩ := h.classes.form; exact h9
  obtain ⟨tt, ht⟩ := h.title
  obtain ⟨a1, b1, f1, _, _⟩ := h.kinds.form
  obtain ⟨a2, b2, f2, _, _⟩ := h.members.form
  obtain ⟨a3, b3, f3, _, _⟩ := h.preds.form
  obtain ⟨a4, b4, f4, _, _⟩ := h.classes.form
  obtain ⟨a5, b5, f5, _, _⟩ := h.sources.form
  obtain ⟨a6, b6, f6, _, _⟩ := h.rules.form
  obtain ⟨a7, b7, f7, _, _⟩ := h.excepts.form
  obtain ⟨a8, b8, f8, _, _⟩ := h.totals.form
  obtain ⟨s0, s1, s2, s3, s4, s5, s6, s7, s8⟩ := st
  simp only at ht f1 f2 f3 f4 f5 f6 f7 f8
  subst ht f1 f2 f3 f4 f5 f6 f7 f8
  obtain ⟨iM, hiM, zM0, zM1, zM2⟩ := info_parts' infoI
  have HM := hide h.preds
  have HC := hide h.classes
  have O1 : Hid (GI 3 ⟨.string tt, .slice a1 S.kinds.length b1, .slice a2 S.members.length b2, .slice a3 S.preds.length b3, .slice a4 S.classes.length b4, .slice a5 S.sources.length b5, .slice a6 S.rules.length b6, .slice a7 S.excepts.length b7, .slice a8 S.totals.length b8⟩ w 0 [] (.slice none 0 0) (w.alloc (.cells #[.string tt, .slice a1 S.kinds.length b1, .slice a2 S.members.length b2, .slice a3 S.preds.length b3, .slice a4 S.classes.length b4, .slice a5 S.sources.length b5, .slice a6 S.rules.length b6, .slice a7 S.excepts.length b7, .slice a8 S.totals.length b8] 31))) := hide (GI.start w)
  unfold St9.agg
  simp only at *
  clear h
  go_enter Tryz.func32, Tryz.ntmps32
  go_wp2_with fail
  go_loopw [3, 4] (fun mv x wr => ∃ (i : Nat) (a0 : Option Addr) (c0 : Nat), i ≤ S.preds.length ∧ x = .int .i64 i ∧ mv = .slice a0 i c0 ∧ Hid (GI 3 ⟨.string tt, .slice a1 S.kinds.length b1, .slice a2 S.members.length b2, .slice a3 S.preds.length b3, .slice a4 S.classes.length b4, .slice a5 S.sources.length b5, .slice a6 S.rules.length b6, .slice a7 S.excepts.length b7, .slice a8 S.totals.length b8⟩ w i (ints (clsL S.classes (S.preds.take i))) (.slice a0 i c0) wr)) (fun _ x _ => S.preds.length - (intOf x).toNat)
  case atStart => exact ⟨0, none, 0, by omega, rfl, rfl, O1⟩
  case round =>
    clear O1
    obtain ⟨i, a0, c0, hi, rfl, rfl, HO⟩ := hrel
    obtain ⟨-, -, -, x3, x4, -, -, -, -⟩ := HO.out.cells
    simp only at x3 x4
    by_cases hlt : i < S.preds.length
    · obtain ⟨x, hx⟩ : ∃ x, S.preds[i]? = some x := ⟨S.preds[i], List.getElem?_eq_getElem hlt⟩
      have HT := hide (ints_snoc (f := fun p : PredM => clsF 0 S.classes p.name) hx)
      have hwr : IntKind.i64.wrap ((S.classes.length : Int) - 1) = (S.classes.length : Int) - 1 := by rw [IntKind.wrap_i64]; omega
      have hst : Hid (clsF S.classes.length (S.classes.drop S.classes.length) x.name = -1) := hide (clsF_end _ _)
      have HX := hide hx
      go_wp2_with fail
      clear x3 x4 hx hwr
      go_loopw [5, 6] (fun nv x9 wr => ∃ k : Nat, k ≤ S.classes.length ∧ x9 = .int .i64 ((k : Int) - 1) ∧ nv = .int .i64 (clsF k (S.classes.drop k) x.name) ∧ Hid (GI 3 ⟨.string tt, .slice a1 S.kinds.length b1, .slice a2 S.members.length b2, .slice a3 S.preds.length b3, .slice a4 S.classes.length b4, .slice a5 S.sources.length b5, .slice a6 S.rules.length b6, .slice a7 S.excepts.length b7, .slice a8 S.totals.length b8⟩ w i (ints (clsL S.classes (S.preds.take i))) (.slice a0 i c0) wr)) (fun _ x9 _ => (intOf x9 + 1).toNat)
      case atStart => exact ⟨S.classes.length, Nat.le_refl _, rfl, by rw [hst.out], HO⟩
      case round =>
        clear HO
        obtain ⟨k, hk, rfl, rfl, HO⟩ := hrel
        obtain ⟨-, -, -, x3, x4, -, -, -, -⟩ := HO.out.cells
        simp only at x3 x4
        cases k with
        | zero =>
          have e0 : (((0 : Nat) : Int) - 1) = -1 := by omega
          rw [e0, List.drop_zero]
          have HROW := hide HO.out.row
          have HL1 : w.heap.size + 1 ≤ wr.heap.size := loc_lt HO.out.box
          generalize clsF 0 S.classes x.name = z at *
          clear hst e0 x3 x4
          go_wp2_with (at_builtin; go_must (refine wpList_append_two _ rfl _ _ 38 rfl (w.heap.size + 1) 3 iM _ 1 8 Tryz.underlying38 hiM zM0 zM1 zM2 rfl (by decide) _ _ _ rfl (HROW.out.alloc _) ⟨wr.heap.size, 0, none⟩ 1 [.int .i64 z] rfl rfl (news_at rfl) (by simp [Value.oneCell']) (by unfold maxLen; omega) (by omega) (by simp; omega) ?_); intro g4 cap4 w4 hown4 hg4)
          have hz : (wr.alloc (.cells #[.int .i64 z] 3)).heap.size = wr.heap.size + 1 := by simp
          rw [hz] at hg4
          refine ⟨⟨i + 1, some ⟨g4, 0, none⟩, cap4, by omega, by go_num, rfl, hide (HO.out.grow (by unfold clsL at hown4 ⊢; rw [HT.out]; exact hown4) hg4)⟩, by simp [intOf]; omega⟩
        | succ j =>
          have e0 : (((j + 1 : Nat) : Int) - 1) = (j : Int) := by omega
          rw [e0]
          obtain ⟨l, hlx⟩ : ∃ l, S.classes[j]? = some l := ⟨S.classes[j], List.getElem?_eq_getElem hk⟩
          have HST := hide (clsF_step hlx x.name)
          have hr := RR.keep HM.out (w' := wr) (fun g hg => HO.out.low.block g hg) (fun _ _ h => cPred.keep (fun g hg => HO.out.low.block g hg) h)
          obtain ⟨g, o, ka, kc, va, vc, rfl, hg, d0, -⟩ := at_P hr HX.out
          have hr2 := RR.keep HC.out (w' := wr) (fun g hg => HO.out.low.block g hg) (fun _ _ h => cClass.keep (fun g hg => HO.out.low.block g hg) h)
          obtain ⟨g2, o2, la, lc, rfl, hg2, d2, hls⟩ := at_C hr2 hlx
          have hlb : l.length ≤ 140737488351232 := by obtain ⟨_, _, _, _, h9⟩ := hls.form; exact h9
          have CF := hide (fun q => rfind_any (w := wr.drewN q) (c := lc) (At1.below (Strs.at1 hls) (below_drewN wr q)) hlb x.name)
          unfold str at CF d0
          have hjw : IntKind.i64.wrap ((j : Int) - 1) = (j : Int) - 1 := by rw [IntKind.wrap_i64]; omega
          clear hr hr2 hg hg2 hls hlx e0
          generalize clsF (j + 1) (S.classes.drop (j + 1)) x.name = z0 at *
          by_cases hm : x.name ∈ l
          · rw [findZ_in hm] at CF
            rw [if_pos hm] at HST
            clear hm
            go_upto_region 9 with fail
            go_quiet ((go_at_call 59; exact Calls.quiet_of_same (CF.out _)))
            rename Nat => q
            have HOq := hide (HO.out.below (below_drewN wr q))
            clear CF HO x3 x4 d0 d2
            generalize wr.drewN q = wd at *
            go_wp2_with fail
            go_roundw
            case rel => exact ⟨j, by omega, by go_num, by rw [HST.out], HOq⟩
            case measure => simp [intOf]
          · rw [findZ_out hm] at CF
            rw [if_neg hm] at HST
            clear hm
            go_upto_region 9 with fail
            go_quiet ((go_at_call 59; exact Calls.quiet_of_same (CF.out _)))
            rename Nat => q
            have HOq := hide (HO.out.below (below_drewN wr q))
            clear CF HO x3 x4 d0 d2
            generalize wr.drewN q = wd at *
            go_wp2_with fail
            go_roundw
            case rel => exact ⟨j, by omega, by go_num, by rw [HST.out], HOq⟩
            case measure => simp [intOf]
    · have hk' : i = S.preds.length := by omega
      subst hk'
      have HE := hide (List.take_of_length_le (Nat.le_refl S.preds.length))
      rw [HE.out] at HO
      go_wp2_with fail
      go_ret
      exact ⟨_, rfl, owns_down HO.out.row (Nat.le_succ _), HO.out.low⟩
end
end Go.Proofs.YtfnobccminhjpaaGreat
/- The program's Of: the members of a kind. -/
namespace Go.Proofs.YtfnobccminhjpaaGreat
open Go.RowKit Go.Shelf Go.Maps Go.WideMaps

/-- What has been gathered when i members have been asked. -/
structure OI (w : World) (bx M : Nat) (kinds : List Bytes) (L : List Int) (mv : Value) (wr : World) : Prop where
  low : Below w.heap.size w wr
  map : KMap 9 wr M kinds
  row : wr.ownsRow w.heap.size 3 1 mv L.length (ints L)
  far : w.heap.size ≤ M
theorem OI.below {w : World} {bx M : Nat} {kinds : List Bytes} {L : List Int} {mv : Value} {wr w' : World} (h : OI w bx M kinds L mv wr) (hb : Below wr.heap.size wr w') : OI w bx M kinds L mv w' :=
  ⟨h.low.trans (hb.mono h.low.size), h.map.keep (hb.block _ h.map.lt), owns_keep h.row fun g hg => hb.block g (owns_lt h.row hg), h.far⟩

theorem OI.grow {w : World} {bx M : Nat} {kinds : List Bytes} {L : List Int} {mv : Value} {wd w4 : World} {z : Int} {ob : Obj} {g4 cap4 : Nat} (h : OI w bx M kinds L mv wd) (hown : w4.ownsRow w.heap.size 3 1 (.slice (some ⟨g4, 0, none⟩) (L.length + 1) cap4) (L.length + 1) (ints L ++ [.int .i64 z]))
    (hg : (mv.ownBlock = some g4 ∧ (wd.alloc ob).grownBy w4 (some g4)) ∨ (g4 = wd.heap.size + 1 ∧ (wd.alloc ob).grownBy w4 none)) : OI w bx M kinds (L ++ [z]) (.slice (some ⟨g4, 0, none⟩) (L.length + 1) cap4) w4 := by
  have hr0 := h.row
  have e1 : (L ++ [z]).length = L.length + 1 := by simp
  have e2 : ints (L ++ [z]) = ints L ++ [.int .i64 z] := by unfold ints; simp
  have hr : wd.ownsRow 0 3 1 mv L.length (ints L) := by
    obtain ⟨h1, h2⟩ := hr0
    refine ⟨h1, ?_⟩
    rcases h2 with h2 | ⟨g, cap, cur, e, _, h4⟩
    · exact .inl h2
    · exact .inr ⟨g, cap, cur, e, Nat.zero_le _, h4⟩
  have hfr := grown_fr (Z := fun k => w.heap.size ≤ k) rfl hg fun g e => (hr0.lt g e).1
  exact ⟨h.low.trans (hfr.below fun k hk => ⟨Nat.lt_of_lt_of_le hk h.low.size, by show ¬ w.heap.size ≤ k; omega⟩), h.map.keep (grown_old rfl hg h.map.lt (own_neM hr h.map)), by rw [e1, e2]; exact hown, h.far⟩
section
variable {S : StatM} {st : St9} {w : World}
set_option maxRecDepth 100000 in
set_option maxHeartbeats 6400000 in
theorem of_any (h : SR w.heap.size w S st) (hm4 : S.members.length * 24 ≤ 140737488351232) (k : Int) : Calls Tryz.prog 33 #[st.agg, .int .i64 k] w fun e w' => ∃ v, e = .returned v ∧ w'.ownsRow w.heap.size 3 1 v (ofL S.kinds k S.members).length (ints (ofL S.kinds k S.members)) ∧ Below w.heap.size w w' := by
  have hk4 : S.kinds.length ≤ 140737488351232 := by obtain ⟨_, _, _, _, h9⟩ := h.kinds.form; exact h9
  obtain ⟨tt, ht⟩ := h.title
  obtain ⟨a1, b1, f1, _, _⟩ := h.kinds.form
  obtain ⟨a2, b2, f2, _, _⟩ := h.members.form
  obtain ⟨a3, b3, f3, _, _⟩ := h.preds.form
  obtain ⟨a4, b4, f4, _, _⟩ := h.classes.form
  obtain ⟨a5, b5, f5, _, _⟩ := h.sources.form
  obtain ⟨a6, b6, f6, _, _⟩ := h.rules.form
  obtain ⟨a7, b7, f7, _, _⟩ := h.excepts.form
  obtain ⟨a8, b8, f8, _, _⟩ := h.totals.form
  obtain ⟨s0, s1, s2, s3, s4, s5, s6, s7, s8⟩ := st
  simp only at ht f1 f2 f3 f4 f5 f6 f7 f8
  subst ht f1 f2 f3 f4 f5 f6 f7 f8
  have hA : Below w.heap.size w (w.alloc (.cells #[.string tt, .slice a1 S.kinds.length b1, .slice a2 S.members.length b2, .slice a3 S.preds.length b3, .slice a4 S.classes.length b4, .slice a5 S.sources.length b5, .slice a6 S.rules.length b6, .slice a7 S.excepts.length b7, .slice a8 S.totals.length b8] 31)) := (Below.refl _ w).alloc (Nat.le_refl _) _
  have CN := hide (numK_any (RR.keep h.kinds (w' := (w.alloc (.cells #[.string tt, .slice a1 S.kinds.length b1, .slice a2 S.members.length b2, .slice a3 S.preds.length b3, .slice a4 S.classes.length b4, .slice a5 S.sources.length b5, .slice a6 S.rules.length b6, .slice a7 S.excepts.length b7, .slice a8 S.totals.length b8] 31))) (fun g hg => hA.block g hg) (fun _ _ hx => hx)) hA.size hk4)
  have hbx : (w.alloc (.cells #[.string tt, .slice a1 S.kinds.length b1, .slice a2 S.members.length b2, .slice a3 S.preds.length b3, .slice a4 S.classes.length b4, .slice a5 S.sources.length b5, .slice a6 S.rules.length b6, .slice a7 S.excepts.length b7, .slice a8 S.totals.length b8] 31)).cell? ⟨w.heap.size, 2, none⟩ = some (.slice a2 S.members.length b2) := cell_of_row _ _ 2 _ _ _ (heap_alloc_new w _)
  rw [List.map_id] at CN
  have HA := hide hA
  have HBX := hide hbx
  have HM := hide h.members
  obtain ⟨iM, hiM, zM0, zM1, zM2⟩ := info_parts' infoI
  unfold St9.agg
  simp only at *
  clear h hA hbx
  go_enter Tryz.func33, Tryz.ntmps33
  go_wp2_with (go_at_call 88; refine CN.out.mono ?_; rintro _ w1 ⟨rfl, hm1, hb1⟩; have O1 : Hid (OI w w.heap.size (w.heap.size + 1) S.kinds [] (.slice none 0 0) w1) := hide ⟨HA.out.trans (hb1.mono HA.out.size), (by have hz : (w.alloc (.cells #[.string tt, .slice a1 S.kinds.length b1, .slice a2 S.members.length b2, .slice a3 S.preds.length b3, .slice a4 S.classes.length b4, .slice a5 S.sources.length b5, .slice a6 S.rules.length b6, .slice a7 S.excepts.length b7, .slice a8 S.totals.length b8] 31)).heap.size = w.heap.size + 1 := (by simp); rw [hz] at hm1; exact hm1), ⟨rfl, .inl ⟨rfl, rfl⟩⟩, Nat.le_succ _⟩; have x2 := (World.cell?_of_block (hb1.block w.heap.size (by simp))).trans HBX.out; clear hm1 hb1 CN)
  clear HA HBX x2
  go_loopw [6, 17] (fun mv x wr => ∃ (i : Nat) (a0 : Option Addr) (c0 : Nat), i ≤ S.members.length ∧ x = .int .i64 i ∧ mv = .slice a0 (ofL S.kinds k (S.members.take i)).length c0 ∧ Hid (OI w w.heap.size (w.heap.size + 1) S.kinds (ofL S.kinds k (S.members.take i)) (.slice a0 (ofL S.kinds k (S.members.take i)).length c0) wr)) (fun _ x _ => S.members.length - (intOf x).toNat)
  case atStart => exact ⟨0, none, 0, by omega, rfl, rfl, O1⟩
  case round =>
    clear O1
    obtain ⟨i, a0, c0, hi, rfl, rfl, HO⟩ := hrel
    by_cases hlt : i < S.members.length
    · obtain ⟨x, hx⟩ : ∃ x, S.members[i]? = some x := ⟨S.members[i], List.getElem?_eq_getElem hlt⟩
      have HSt := hide (ofL_step (kinds := S.kinds) (k := k) hx)
      have HLe := ofL_le (kinds := S.kinds) (k := k) (l := S.members) i
      have hr := RR.keep HM.out (w' := wr) (fun g hg => HO.out.low.block g hg) (fun _ _ h => h)
      obtain ⟨g, o, rfl, hg, d0, d1, hs, hs2⟩ := at_M hr hx
      have HG : Hid (g < wr.heap.size) := hide (Nat.lt_of_lt_of_le hg HO.out.low.size)
      clear hr hx hg
      unfold str at d0 d1
      have hA2 : Below wr.heap.size wr (wr.alloc (.cells #[.string ⟨x.1.toArray⟩, .string ⟨x.2.toArray⟩] 73)) := (Below.refl _ _).alloc (Nat.le_refl _) _
      have HO2 := hide (HO.out.below hA2)
      clear hA2
      generalize ofL S.kinds k (S.members.take i) = L at *
      obtain ⟨nn, D, hown, hNum, _⟩ := HO2.out.map
      have HN := hide (hNum x.2)
      have HK := hide (key_mk hs2)
      clear hNum
      go_upto_region 7 with (at_lookup; go_must (refine wpList_lookup_own_ok_int _ rfl _ _ 98 rfl 9 3 .i64 law Tryz.underlying98 Tryz.underlying3 (Tryz.zeroValue3 _) (w.heap.size + 1) nn _ rfl hown _ _ rfl HK.out ?_); intro cc hat hwc; have hc : cc = posB S.kinds x.2 := (by have h9 := hat.symm.trans HN.out.2; injection h9 with e; injection e); have hh := HN.out.1; subst hc; clear hat hwc HN hown; rw [hh]; clear hh)
      by_cases hin : x.2 ∈ S.kinds
      · rw [decide_eq_true hin]
        by_cases heq : (posB S.kinds x.2 : Int) = k
        · have hp : ofP S.kinds k x = true := by unfold ofP; rw [decide_eq_true hin, decide_eq_true heq]; rfl
          have hbq : ((posB S.kinds x.2 : Int) == k) = true := by simpa using heq
          rw [hp] at HSt
          simp only [if_true] at HSt
          have HROW := hide HO2.out.row
          have HL1 := HO2.out.low.size
          generalize (wr.alloc (.cells #[.string ⟨x.1.toArray⟩, .string ⟨x.2.toArray⟩] 73)) = wd at *
          clear heq hp
          go_wp2_with (at_builtin; go_must (refine wpList_append_two _ rfl _ _ 38 rfl w.heap.size 3 iM _ 1 8 Tryz.underlying38 hiM zM0 zM1 zM2 rfl (by decide) _ _ _ rfl (HROW.out.alloc _) ⟨wd.heap.size, 0, none⟩ 1 [.int .i64 i] rfl rfl (news_at rfl) (by simp [Value.oneCell']) (by unfold maxLen; omega) (by omega) (by simp; omega) ?_); intro g4 cap4 w4 hown4 hg4)
          have hz : (wd.alloc (.cells #[.int .i64 (i : Int)] 3)).heap.size = wd.heap.size + 1 := by simp
          rw [hz] at hg4
          refine ⟨⟨i + 1, some ⟨g4, 0, none⟩, cap4, by omega, by go_num, by rw [HSt.out]; simp, ?_⟩, by simp [intOf]; omega⟩
          have e1 : (L ++ [(i : Int)]).length = L.length + 1 := by simp
          rw [HSt.out, e1]
          exact hide (HO2.out.grow hown4 hg4)
        · have hp : ofP S.kinds k x = false := by unfold ofP; rw [decide_eq_false heq, Bool.and_false]
          have hbq : ((posB S.kinds x.2 : Int) == k) = false := by simpa using heq
          rw [hp] at HSt
          simp only [Bool.false_eq_true, if_false, List.append_nil] at HSt
          go_wp2_with fail
          go_roundw
          case rel => exact ⟨i + 1, a0, c0, by omega, by go_num, by rw [HSt.out], by rw [HSt.out]; exact HO2⟩
          case measure => simp [intOf]; omega
      · rw [decide_eq_false hin]
        have hp : ofP S.kinds k x = false := by unfold ofP; rw [decide_eq_false hin, Bool.false_and]
        rw [hp] at HSt
        simp only [Bool.false_eq_true, if_false, List.append_nil] at HSt
        go_wp2_with fail
        go_roundw
        case rel => exact ⟨i + 1, a0, c0, by omega, by go_num, by rw [HSt.out], by rw [HSt.out]; exact HO2⟩
        case measure => simp [intOf]; omega
    · have hk' : i = S.members.length := by omega
      subst hk'
      have HE := hide (List.take_of_length_le (Nat.le_refl S.members.length))
      rw [HE.out] at HO ⊢
      go_wp2_with fail
      go_ret
      exact ⟨_, rfl, HO.out.row, HO.out.low⟩
end
end Go.Proofs.YtfnobccminhjpaaGreat
