/- The program's Of: the members of a kind. -/
import Derived.Test.YtfnobccminhjpaaGreatBx9
import Derived.Test.YtfnobccminhjpaaGreatPrg9
import Derived.Test.YtfnobccminhjpaaGreatRvar9
import Derived.Test.YtfnobccminhjpaaGreatCopX9
import Derived.Test.YtfnobccminhjpaaGreatSamX9
import Derived.Test.YtfnobccminhjpaaGreatWork9
namespace Go.Proofs.YtfnobccminhjpaaGreat
open Go.RowKit Go.Shelf Go.Maps Go.WideMaps

/-- What has been gathered when i members have been asked. -/
structure OI (w : World) (bx M : Nat) (kinds : List Bytes) (L : List Int) (mv : Value) (wr : World) : Prop where
  low : Below w.heap.size w wr
  map : KMap 9 wr M kinds
  row : wr.ownsRow w.heap.size 3 1 mv L.length (ints L)
  far : w.heap.size ≤ M
theorem OI.below {w : World} {bx M : Nat} {kinds : List Bytes} {L : List Int} {mv : Value} {wr w' : World} (h : OI w bx M kinds L mv wr) (hb : Below wr.heap.size wr w') : OI w bx M kinds L mv w' :=
  ⟨h.low.trans (hb.mono h.low.size), h.map.keep (hb.block _ h.map.lt), owns_keep h.row fun g hg => hb.block g (owns_lt h.row hg), h.far⟩

theorem OI.grow {w : World} {bx M : Nat} {kinds : List Bytes} {L : List Int} {mv : Value} {wd w4 : World} {z : Int} {ob : Obj} {g4 cap4 : Nat} (h : OI w bx M kinds L mv wd) (hown : w4.ownsRow w.heap.size 3 1 (.slice (some ⟨g4, 0, none⟩) (L.length + 1) cap4) (L.length + 1) (ints L ++ [.int .i64 z]))
    (hg : (mv.ownBlock = some g4 ∧ (wd.alloc ob).grownBy w4 (some g4)) ∨ (g4 = wd.heap.size + 1 ∧ (wd.alloc ob).grownBy w4 none)) : OI w bx M kinds (L ++ [z]) (.slice (some ⟨g4, 0, none⟩) (L.length + 1) cap4) w4 := by
  have hr0 := h.row
  have e1 : (L ++ [z]).length = L.length + 1 := by simp
  have e2 : ints (L ++ [z]) = ints L ++ [.int .i64 z] := by unfold ints; simp
  have hr : wd.ownsRow 0 3 1 mv L.length (ints L) := by
    obtain ⟨h1, h2⟩ := hr0
    refine ⟨h1, ?_⟩
    rcases h2 with h2 | ⟨g, cap, cur, e, _, h4⟩
    · exact .inl h2
    · exact .inr ⟨g, cap, cur, e, Nat.zero_le _, h4⟩
  have hfr := grown_fr (Z := fun k => w.heap.size ≤ k) rfl hg fun g e => (hr0.lt g e).1
  exact ⟨h.low.trans (hfr.below fun k hk => ⟨Nat.lt_of_lt_of_le hk h.low.size, by show ¬ w.heap.size ≤ k; omega⟩), h.map.keep (grown_old rfl hg h.map.lt (own_neM hr h.map)), by rw [e1, e2]; exact hown, h.far⟩
section
variable {S : StatM} {st : St9} {w : World}
set_option maxRecDepth 100000 in
set_option maxHeartbeats 6400000 in
theorem of_any (h : SR w.heap.size w S st) (hm4 : S.members.length * 24 ≤ 140737488351232) (k : Int) : Calls Tryz.prog 33 #[st.agg, .int .i64 k] w fun e w' => ∃ v, e = .returned v ∧ w'.ownsRow w.heap.size 3 1 v (ofL S.kinds k S.members).length (ints (ofL S.kinds k S.members)) ∧ Below w.heap.size w w' := by
  have hk4 : S.kinds.length ≤ 140737488351232 := by obtain ⟨_, _, _, _, h9⟩ := h.kinds.form; exact h9
  obtain ⟨tt, ht⟩ := h.title
  obtain ⟨a1, b1, f1, _, _⟩ := h.kinds.form
  obtain ⟨a2, b2, f2, _, _⟩ := h.members.form
  obtain ⟨a3, b3, f3, _, _⟩ := h.preds.form
  obtain ⟨a4, b4, f4, _, _⟩ := h.classes.form
  obtain ⟨a5, b5, f5, _, _⟩ := h.sources.form
  obtain ⟨a6, b6, f6, _, _⟩ := h.rules.form
  obtain ⟨a7, b7, f7, _, _⟩ := h.excepts.form
  obtain ⟨a8, b8, f8, _, _⟩ := h.totals.form
  obtain ⟨s0, s1, s2, s3, s4, s5, s6, s7, s8⟩ := st
  simp only at ht f1 f2 f3 f4 f5 f6 f7 f8
  subst ht f1 f2 f3 f4 f5 f6 f7 f8
  have hA : Below w.heap.size w (w.alloc (.cells #[.string tt, .slice a1 S.kinds.length b1, .slice a2 S.members.length b2, .slice a3 S.preds.length b3, .slice a4 S.classes.length b4, .slice a5 S.sources.length b5, .slice a6 S.rules.length b6, .slice a7 S.excepts.length b7, .slice a8 S.totals.length b8] 31)) := (Below.refl _ w).alloc (Nat.le_refl _) _
  have CN := hide (numK_any (RR.keep h.kinds (w' := (w.alloc (.cells #[.string tt, .slice a1 S.kinds.length b1, .slice a2 S.members.length b2, .slice a3 S.preds.length b3, .slice a4 S.classes.length b4, .slice a5 S.sources.length b5, .slice a6 S.rules.length b6, .slice a7 S.excepts.length b7, .slice a8 S.totals.length b8] 31))) (fun g hg => hA.block g hg) (fun _ _ hx => hx)) hA.size hk4)
  have hbx : (w.alloc (.cells #[.string tt, .slice a1 S.kinds.length b1, .slice a2 S.members.length b2, .slice a3 S.preds.length b3, .slice a4 S.classes.length b4, .slice a5 S.sources.length b5, .slice a6 S.rules.length b6, .slice a7 S.excepts.length b7, .slice a8 S.totals.length b8] 31)).cell? ⟨w.heap.size, 2, none⟩ = some (.slice a2 S.members.length b2) := cell_of_row _ _ 2 _ _ _ (heap_alloc_new w _)
  rw [List.map_id] at CN
  have HA := hide hA
  have HBX := hide hbx
  have HM := hide h.members
  obtain ⟨iM, hiM, zM0, zM1, zM2⟩ := info_parts' infoI
  unfold St9.agg
  simp only at *
  clear h hA hbx
  go_enter Tryz.func33, Tryz.ntmps33
  go_wp2_with (go_at_call 88; refine CN.out.mono ?_; rintro _ w1 ⟨rfl, hm1, hb1⟩; have O1 : Hid (OI w w.heap.size (w.heap.size + 1) S.kinds [] (.slice none 0 0) w1) := hide ⟨HA.out.trans (hb1.mono HA.out.size), (by have hz : (w.alloc (.cells #[.string tt, .slice a1 S.kinds.length b1, .slice a2 S.members.length b2, .slice a3 S.preds.length b3, .slice a4 S.classes.length b4, .slice a5 S.sources.length b5, .slice a6 S.rules.length b6, .slice a7 S.excepts.length b7, .slice a8 S.totals.length b8] 31)).heap.size = w.heap.size + 1 := (by simp); rw [hz] at hm1; exact hm1), ⟨rfl, .inl ⟨rfl, rfl⟩⟩, Nat.le_succ _⟩; have x2 := (World.cell?_of_block (hb1.block w.heap.size (by simp))).trans HBX.out; clear hm1 hb1 CN)
  clear HA HBX x2
  go_loopw [6, 17] (fun mv x wr => ∃ (i : Nat) (a0 : Option Addr) (c0 : Nat), i ≤ S.members.length ∧ x = .int .i64 i ∧ mv = .slice a0 (ofL S.kinds k (S.members.take i)).length c0 ∧ Hid (OI w w.heap.size (w.heap.size + 1) S.kinds (ofL S.kinds k (S.members.take i)) (.slice a0 (ofL S.kinds k (S.members.take i)).length c0) wr)) (fun _ x _ => S.members.length - (intOf x).toNat)
  case atStart => exact ⟨0, none, 0, by omega, rfl, rfl, O1⟩
  case round =>
    clear O1
    obtain ⟨i, a0, c0, hi, rfl, rfl, HO⟩ := hrel
    by_cases hlt : i < S.members.length
    · obtain ⟨x, hx⟩ : ∃ x, S.members[i]? = some x := ⟨S.members[i], List.getElem?_eq_getElem hlt⟩
      have HSt := hide (ofL_step (kinds := S.kinds) (k := k) hx)
      have HLe := ofL_le (kinds := S.kinds) (k := k) (l := S.members) i
      have hr := RR.keep HM.out (w' := wr) (fun g hg => HO.out.low.block g hg) (fun _ _ h => h)
      obtain ⟨g, o, rfl, hg, d0, d1, hs, hs2⟩ := at_M hr hx
      have HG : Hid (g < wr.heap.size) := hide (Nat.lt_of_lt_of_le hg HO.out.low.size)
      clear hr hx hg
      unfold str at d0 d1
      have hA2 : Below wr.heap.size wr (wr.alloc (.cells #[.string ⟨x.1.toArray⟩, .string ⟨x.2.toArray⟩] 73)) := (Below.refl _ _).alloc (Nat.le_refl _) _
      have HO2 := hide (HO.out.below hA2)
      clear hA2
      generalize ofL S.kinds k (S.members.take i) = L at *
      obtain ⟨nn, D, hown, hNum, _⟩ := HO2.out.map
      have HN := hide (hNum x.2)
      have HK := hide (key_mk hs2)
      clear hNum
      go_upto_region 7 with (at_lookup; go_must (refine wpList_lookup_own_ok_int _ rfl _ _ 98 rfl 9 3 .i64 law Tryz.underlying98 Tryz.underlying3 (Tryz.zeroValue3 _) (w.heap.size + 1) nn _ rfl hown _ _ rfl HK.out ?_); intro cc hat hwc; have hc : cc = posB S.kinds x.2 := (by have h9 := hat.symm.trans HN.out.2; injection h9 with e; injection e); have hh := HN.out.1; subst hc; clear hat hwc HN hown; rw [hh]; clear hh)
      by_cases hin : x.2 ∈ S.kinds
      · rw [decide_eq_true hin]
        by_cases heq : (posB S.kinds x.2 : Int) = k
        · have hp : ofP S.kinds k x = true := by unfold ofP; rw [decide_eq_true hin, decide_eq_true heq]; rfl
          have hbq : ((posB S.kinds x.2 : Int) == k) = true := by simpa using heq
          rw [hp] at HSt
          simp only [if_true] at HSt
          have HROW := hide HO2.out.row
          have HL1 := HO2.out.low.size
          generalize (wr.alloc (.cells #[.string ⟨x.1.toArray⟩, .string ⟨x.2.toArray⟩] 73)) = wd at *
          clear heq hp
          go_wp2_with (at_builtin; go_must (refine wpList_append_two _ rfl _ _ 38 rfl w.heap.size 3 iM _ 1 8 Tryz.underlying38 hiM zM0 zM1 zM2 rfl (by decide) _ _ _ rfl (HROW.out.alloc _) ⟨wd.heap.size, 0, none⟩ 1 [.int .i64 i] rfl rfl (news_at rfl) (by simp [Value.oneCell']) (by unfold maxLen; omega) (by omega) (by simp; omega) ?_); intro g4 cap4 w4 hown4 hg4)
          have hz : (wd.alloc (.cells #[.int .i64 (i : Int)] 3)).heap.size = wd.heap.size + 1 := by simp
          rw [hz] at hg4
          refine ⟨⟨i + 1, some ⟨g4, 0, none⟩, cap4, by omega, by go_num, by rw [HSt.out]; simp, ?_⟩, by simp [intOf]; omega⟩
          have e1 : (L ++ [(i : Int)]).length = L.length + 1 := by simp
          rw [HSt.out, e1]
          exact hide (HO2.out.grow hown4 hg4)
        · have hp : ofP S.kinds k x = false := by unfold ofP; rw [decide_eq_false heq, Bool.and_false]
          have hbq : ((posB S.kinds x.2 : Int) == k) = false := by simpa using heq
          rw [hp] at HSt
          simp only [Bool.false_eq_true, if_false, List.append_nil] at HSt
          go_wp2_with fail
          go_roundw
          case rel => exact ⟨i + 1, a0, c0, by omega, by go_num, by rw [HSt.out], by rw [HSt.out]; exact HO2⟩
          case measure => simp [intOf]; omega
      · rw [decide_eq_false hin]
        have hp : ofP S.kinds k x = false := by unfold ofP; rw [decide_eq_false hin, Bool.false_and]
        rw [hp] at HSt
        simp only [Bool.false_eq_true, if_false, List.append_nil] at HSt
        go_wp2_with fail
        go_roundw
        case rel => exact ⟨i + 1, a0, c0, by omega, by go_num, by rw [HSt.out], by rw [HSt.out]; exact HO2⟩
        case measure => simp [intOf]; omega
    · have hk' : i = S.members.length := by omega
      subst hk'
      have HE := hide (List.take_of_length_le (Nat.le_refl S.members.length))
      rw [HE.out] at HO ⊢
      go_wp2_with fail
      go_ret
      exact ⟨_, rfl, HO.out.row, HO.out.low⟩
end
end Go.Proofs.YtfnobccminhjpaaGreat
/- Two lists of numbers that are one. -/
namespace Go.Proofs.YtfnobccminhjpaaGreat
open Go.RowKit Go.Shelf Go.Maps Go.WideMaps

theorem ints_at {l : List Int} {i : Nat} (hi : i < l.length) : (ints l)[i]? = some (.int .i64 (l.getD i 0)) := by
  unfold ints
  rw [List.getElem?_map, List.getElem?_eq_getElem hi]
  simp [List.getD, hi]

set_option maxRecDepth 100000 in
set_option maxHeartbeats 3200000 in
theorem sameI_any {l : List Int} {va vb : Value} {w : World} (ha : w.ownsRow 0 3 1 va l.length (ints l)) (hb : w.ownsRow 0 3 1 vb l.length (ints l)) (hl : l.length ≤ 140737488351232) :
    Calls Tryz.prog 14 #[va, vb] w fun e w' => e = .returned (.bool true) ∧ Below w.heap.size w w' := by
  have HA := hide ha
  have HB := hide hb
  obtain ⟨aa, ca, rfl⟩ := owns_slice ha
  obtain ⟨ab, cb, rfl⟩ := owns_slice hb
  clear ha hb
  go_enter Tryz.func14, Tryz.ntmps14
  go_wp2_with fail
  go_loopw [5] (fun x wr => ∃ k q : Nat, k ≤ l.length ∧ x = .int .i64 k ∧ wr = w.drewN q) (fun x _ => l.length - (intOf x).toNat)
  case atStart => exact ⟨0, 0, by omega, rfl, rfl⟩
  case round =>
    obtain ⟨k, q, hk, rfl, rfl⟩ := hrel
    by_cases hlt : k < l.length
    · obtain ⟨ga, xa, e1, a0, -, -⟩ := owns_at HA.out (ints_at hlt)
      obtain ⟨gb, xb, e2, b0, -, -⟩ := owns_at HB.out (ints_at hlt)
      simp only [Value.slice.injEq] at e1 e2
      obtain ⟨rfl, -, rfl⟩ := e1
      obtain ⟨rfl, -, rfl⟩ := e2
      generalize l.getD k 0 = t at a0 b0
      go_wp2_with fail
      go_quiet (fail)
      go_wp2_with fail
      go_roundw
      case rel => exact ⟨k + 1, _, by omega, by go_num, rfl⟩
      case measure => simp [intOf]; omega
    · go_wp2_with fail
      go_ret
      exact ⟨rfl, below_drewN w q⟩
theorem sameI_of {l : List Int} {n : Nat} {va vb : Value} {w : World} (ha : w.ownsRow 0 3 1 va n (ints l)) (hb : w.ownsRow 0 3 1 vb n (ints l)) (hn : l.length = n) (hl : n ≤ 140737488351232) :
    Calls Tryz.prog 14 #[va, vb] w fun e w' => e = .returned (.bool true) ∧ Below w.heap.size w w' := by
  subst hn
  exact sameI_any ha hb hl
end Go.Proofs.YtfnobccminhjpaaGreat
/- ResolveChecks walked. By program (tools/gen8/chkw9.py). -/
namespace Go.Proofs.YtfnobccminhjpaaGreat
open Go.RowKit Go.Shelf Go.Maps Go.WideMaps

abbrev St9.cs9 (st : St9) : List Value := [st.title, st.kinds, st.members, st.preds, st.classes, st.sources, st.rules, st.excepts, st.totals]
/-- What Vars answers, of both. -/
def outV (S : StatM) (k : Int) : List Bytes × List Int × Int :=
  if (checkM S).1 = 0 then match varsM S k with
    | .error d => ([], [], d)
    | .ok v => (v.names, v.kinds, 0)
  else ([], [], (checkM S).1)
theorem outV_len (S : StatM) (k : Int) : (outV S k).2.1.length = (outV S k).1.length := by
  unfold outV
  split
  · split
    · rfl
    · unfold Scope.names Scope.kinds; simp
  · rfl
theorem Ex.out {S : StatM} {k : Int} {w w' : World} {e : Ending} (h : Ex w (checkM S).1 (varsM S k) e w') : ∃ a c a' c', e = .returned (.tuple #[.slice a (outV S k).1.length c, .slice a' (outV S k).1.length c', .int .i64 (outV S k).2.2]) ∧ Below w.heap.size w w' ∧ w'.ownsRow w.heap.size 9 1 (.slice a (outV S k).1.length c) (outV S k).1.length (strs (outV S k).1) ∧ w'.ownsRow w.heap.size 3 1 (.slice a' (outV S k).1.length c') (outV S k).1.length (ints (outV S k).2.1) := by
  obtain ⟨hb, h⟩ := h
  unfold outV
  rcases h with ⟨hc, rfl⟩ | ⟨hc, d, ho, rfl⟩ | ⟨hc, v, nv, kv, ho, rfl, h1, h2⟩
  · rw [if_neg hc]
    exact ⟨none, 0, none, 0, rfl, hb, ⟨rfl, .inl ⟨rfl, rfl⟩⟩, ⟨rfl, .inl ⟨rfl, rfl⟩⟩⟩
  · rw [if_pos hc, ho]
    exact ⟨none, 0, none, 0, rfl, hb, ⟨rfl, .inl ⟨rfl, rfl⟩⟩, ⟨rfl, .inl ⟨rfl, rfl⟩⟩⟩
  · rw [if_pos hc, ho]
    have hl : v.names.length = v.length := by unfold Scope.names; simp
    obtain ⟨a, c, rfl⟩ := owns_slice h1
    obtain ⟨a', c', rfl⟩ := owns_slice h2
    show ∃ a_1 c_1 a'_1 c'_1, _ = Ending.returned (.tuple #[.slice a_1 v.names.length c_1, .slice a'_1 v.names.length c'_1, .int .i64 0]) ∧ _
    rw [hl]
    exact ⟨a, c, a', c', rfl, hb, h1, h2⟩
theorem outV_lim (S : StatM) (k : Int) : (outV S k).1.length ≤ 140737488351232 := by
  unfold outV
  split
  · rename_i hc
    split
    · simp
    · rename_i v hv
      have h1 := (vars_fit hc hv).1
      have h2 : v.names.length = v.length := by unfold Scope.names; simp
      show v.names.length ≤ _
      omega
  · simp
/-- The boxes and the copy in memory. -/
structure Rc (S : StatM) (st' : St9) (SVl : List Value) (w : World) (b : Nat) (W : World) : Prop where
  low : Below w.heap.size w W
  b0 : W.heap[w.heap.size]? = some (.cells SVl.toArray 31 (0, 0))
  b2 : W.heap[b]? = some (.cells st'.cs9.toArray 31 (0, 0))
  title : st'.title = str S.title
  sr : SR W.heap.size W S st'
theorem Rc.call {S : StatM} {st' : St9} {SVl : List Value} {w : World} {b : Nat} {W W' : World} (h : Rc S st' SVl w b W) (hb : Below W.heap.size W W') : Rc S st' SVl w b W' :=
  ⟨h.low.trans (hb.mono h.low.size), (hb.block _ (loc_lt h.b0)).trans h.b0, (hb.block _ (loc_lt h.b2)).trans h.b2, h.title, SR.go hb h.sr⟩
set_option maxRecDepth 100000 in
set_option maxHeartbeats 12800000 in
theorem checks_walk {S : StatM} {st : St9} {w : World} (h : SR w.heap.size w S st) (ht : st.title = str S.title) (hz : SzS S) (k : Int) :
    Calls Tryz.prog 3 #[st.agg, .int .i64 k] w fun e w' => e = .returned (.bool true) ∧ Below w.heap.size w w' := by
  obtain ⟨a1, b1, f1, _, _⟩ := h.kinds.form
  obtain ⟨a2, b2, f2, _, _⟩ := h.members.form
  obtain ⟨a3, b3, f3, _, _⟩ := h.preds.form
  obtain ⟨a4, b4, f4, _, _⟩ := h.classes.form
  obtain ⟨a5, b5, f5, _, _⟩ := h.sources.form
  obtain ⟨a6, b6, f6, _, _⟩ := h.rules.form
  obtain ⟨a7, b7, f7, _, _⟩ := h.excepts.form
  obtain ⟨a8, b8, f8, _, _⟩ := h.totals.form
  obtain ⟨s0, s1, s2, s3, s4, s5, s6, s7, s8⟩ := st
  simp only at ht f1 f2 f3 f4 f5 f6 f7 f8
  subst ht f1 f2 f3 f4 f5 f6 f7 f8
  have HS := hide h
  have HZ := hide hz
  clear h hz
  unfold str at *
  show Calls Tryz.prog 3 #[.agg #[.string ⟨S.title.toArray⟩, .slice a1 S.kinds.length b1, .slice a2 S.members.length b2, .slice a3 S.preds.length b3, .slice a4 S.classes.length b4, .slice a5 S.sources.length b5, .slice a6 S.rules.length b6, .slice a7 S.excepts.length b7, .slice a8 S.totals.length b8], .int .i64 k] w _
  have HA := hide ((Below.refl w.heap.size w).alloc (Nat.le_refl _) (.cells #[.string ⟨S.title.toArray⟩, .slice a1 S.kinds.length b1, .slice a2 S.members.length b2, .slice a3 S.preds.length b3, .slice a4 S.classes.length b4, .slice a5 S.sources.length b5, .slice a6 S.rules.length b6, .slice a7 S.excepts.length b7, .slice a8 S.totals.length b8] 31))
  have HB0 := hide (heap_alloc_new w (.cells #[.string ⟨S.title.toArray⟩, .slice a1 S.kinds.length b1, .slice a2 S.members.length b2, .slice a3 S.preds.length b3, .slice a4 S.classes.length b4, .slice a5 S.sources.length b5, .slice a6 S.rules.length b6, .slice a7 S.excepts.length b7, .slice a8 S.totals.length b8] 31))
  go_enter Tryz.func3, Tryz.ntmps3
  go_upto_region 1 with fail
  generalize w.alloc (.cells #[.string ⟨S.title.toArray⟩, .slice a1 S.kinds.length b1, .slice a2 S.members.length b2, .slice a3 S.preds.length b3, .slice a4 S.classes.length b4, .slice a5 S.sources.length b5, .slice a6 S.rules.length b6, .slice a7 S.excepts.length b7, .slice a8 S.totals.length b8] 31) = W0 at *
  have y0 := cell_of_row W0 _ 0 _ _ _ HB0.out
  have y1 := cell_of_row W0 _ 1 _ _ _ HB0.out
  have y2 := cell_of_row W0 _ 2 _ _ _ HB0.out
  have y3 := cell_of_row W0 _ 3 _ _ _ HB0.out
  have y4 := cell_of_row W0 _ 4 _ _ _ HB0.out
  have y5 := cell_of_row W0 _ 5 _ _ _ HB0.out
  have y6 := cell_of_row W0 _ 6 _ _ _ HB0.out
  have y7 := cell_of_row W0 _ 7 _ _ _ HB0.out
  have y8 := cell_of_row W0 _ 8 _ _ _ HB0.out
  simp only [List.getElem?_toArray, List.getElem?_cons_zero, List.getElem?_cons_succ] at y0 y1 y2 y3 y4 y5 y6 y7 y8
  have CC := hide (copySt_any (SR.go HA.out HS.out) rfl HZ.out)
  unfold St9.agg at CC
  simp only at CC
  go_wp2_with fail
  refine CC.out.mono ?_
  rintro _ W1 ⟨st', rfl, ht', hsr, hb1⟩
  obtain ⟨m1, n1, i1, _⟩ := hsr.kinds.form
  obtain ⟨m2, n2, i2, _⟩ := hsr.members.form
  obtain ⟨m3, n3, i3, _⟩ := hsr.preds.form
  obtain ⟨m4, n4, i4, _⟩ := hsr.classes.form
  obtain ⟨m5, n5, i5, _⟩ := hsr.sources.form
  obtain ⟨m6, n6, i6, _⟩ := hsr.rules.form
  obtain ⟨m7, n7, i7, _⟩ := hsr.excepts.form
  obtain ⟨m8, n8, i8, _⟩ := hsr.totals.form
  have HSR := hide hsr
  have HT' := hide ht'
  obtain ⟨u0, u1, u2, u3, u4, u5, u6, u7, u8⟩ := st'
  simp only at ht' i1 i2 i3 i4 i5 i6 i7 i8
  subst ht' i1 i2 i3 i4 i5 i6 i7 i8
  unfold str at *
  have hA1 : Below W1.heap.size W1 (W1.alloc (.cells #[.string ⟨S.title.toArray⟩, .slice m1 S.kinds.length n1, .slice m2 S.members.length n2, .slice m3 S.preds.length n3, .slice m4 S.classes.length n4, .slice m5 S.sources.length n5, .slice m6 S.rules.length n6, .slice m7 S.excepts.length n7, .slice m8 S.totals.length n8] 31)) := (Below.refl _ W1).alloc (Nat.le_refl _) _
  have HR : Hid (Rc S ⟨.string ⟨S.title.toArray⟩, .slice m1 S.kinds.length n1, .slice m2 S.members.length n2, .slice m3 S.preds.length n3, .slice m4 S.classes.length n4, .slice m5 S.sources.length n5, .slice m6 S.rules.length n6, .slice m7 S.excepts.length n7, .slice m8 S.totals.length n8⟩ [.string ⟨S.title.toArray⟩, .slice a1 S.kinds.length b1, .slice a2 S.members.length b2, .slice a3 S.preds.length b3, .slice a4 S.classes.length b4, .slice a5 S.sources.length b5, .slice a6 S.rules.length b6, .slice a7 S.excepts.length b7, .slice a8 S.totals.length b8] w W1.heap.size (W1.alloc (.cells #[.string ⟨S.title.toArray⟩, .slice m1 S.kinds.length n1, .slice m2 S.members.length n2, .slice m3 S.preds.length n3, .slice m4 S.classes.length n4, .slice m5 S.sources.length n5, .slice m6 S.rules.length n6, .slice m7 S.excepts.length n7, .slice m8 S.totals.length n8] 31))) := hide ⟨HA.out.trans ((hb1.trans (hA1.mono hb1.size)).mono HA.out.size), ((hb1.trans (hA1.mono hb1.size)).block _ (loc_lt HB0.out)).trans HB0.out, heap_alloc_new W1 _, rfl, SR.go hA1 HSR.out⟩
  clear CC hsr hb1 hA1 HSR HT' HB0 HA y0 y1 y2 y3 y4 y5 y6 y7 y8
  go_upto_region 2 with fail
  generalize W1.alloc (.cells #[.string ⟨S.title.toArray⟩, .slice m1 S.kinds.length n1, .slice m2 S.members.length n2, .slice m3 S.preds.length n3, .slice m4 S.classes.length n4, .slice m5 S.sources.length n5, .slice m6 S.rules.length n6, .slice m7 S.excepts.length n7, .slice m8 S.totals.length n8] 31) = W2 at *
  generalize W1.heap.size = b at *
  have y0 := cell_of_row W2 _ 0 _ _ _ HR.out.b2
  have y1 := cell_of_row W2 _ 1 _ _ _ HR.out.b2
  have y2 := cell_of_row W2 _ 2 _ _ _ HR.out.b2
  have y3 := cell_of_row W2 _ 3 _ _ _ HR.out.b2
  have y4 := cell_of_row W2 _ 4 _ _ _ HR.out.b2
  have y5 := cell_of_row W2 _ 5 _ _ _ HR.out.b2
  have y6 := cell_of_row W2 _ 6 _ _ _ HR.out.b2
  have y7 := cell_of_row W2 _ 7 _ _ _ HR.out.b2
  have y8 := cell_of_row W2 _ 8 _ _ _ HR.out.b2
  simp only [List.getElem?_toArray, List.getElem?_cons_zero, List.getElem?_cons_succ] at y0 y1 y2 y3 y4 y5 y6 y7 y8
  have CX := hide (check_any HR.out.sr)
  unfold St9.agg at CX
  simp only at CX
  go_upto_region 3 with (go_at_call 8; refine CX.out.mono ?_; rintro e W3 ⟨rfl, hb⟩)
  have HR3 := hide (HR.out.call hb)
  clear CX hb HR y0 y1 y2 y3 y4 y5 y6 y7 y8
  have y0 := cell_of_row W3 _ 0 _ _ _ HR3.out.b0
  have y1 := cell_of_row W3 _ 1 _ _ _ HR3.out.b0
  have y2 := cell_of_row W3 _ 2 _ _ _ HR3.out.b0
  have y3 := cell_of_row W3 _ 3 _ _ _ HR3.out.b0
  have y4 := cell_of_row W3 _ 4 _ _ _ HR3.out.b0
  have y5 := cell_of_row W3 _ 5 _ _ _ HR3.out.b0
  have y6 := cell_of_row W3 _ 6 _ _ _ HR3.out.b0
  have y7 := cell_of_row W3 _ 7 _ _ _ HR3.out.b0
  have y8 := cell_of_row W3 _ 8 _ _ _ HR3.out.b0
  simp only [List.getElem?_toArray, List.getElem?_cons_zero, List.getElem?_cons_succ] at y0 y1 y2 y3 y4 y5 y6 y7 y8
  have CX := hide (rcheck_any (SR.go HR3.out.low HS.out))
  unfold St9.agg at CX
  simp only at CX
  go_upto_region 4 with (go_at_call 9; refine CX.out.mono ?_; rintro e W4 ⟨rfl, hb⟩)
  have HR4 := hide (HR3.out.call hb)
  clear CX hb HR3 y0 y1 y2 y3 y4 y5 y6 y7 y8
  generalize (checkM S).2 = at9
  have HEX := hide (fun (W W' : World) (e : Ending) (h : Ex W (checkM S).1 (varsM S k) e W') => Ex.out h)
  have HVA := hide (fun (W : World) (st9 : St9) (h : SR W.heap.size W S st9) => vars_any h k)
  have HVB := hide (fun (W : World) (st9 : St9) (h : SR W.heap.size W S st9) => rvars_any h k)
  have HOL := hide (outV_len S k)
  have HLI := hide (outV_lim S k)
  generalize outV S k = oo at *
  obtain ⟨nm, kd, vc⟩ := oo
  simp only at HEX HOL HLI
  generalize (checkM S).1 = cc at *
  have y0 := cell_of_row W4 _ 0 _ _ _ HR4.out.b2
  have y1 := cell_of_row W4 _ 1 _ _ _ HR4.out.b2
  have y2 := cell_of_row W4 _ 2 _ _ _ HR4.out.b2
  have y3 := cell_of_row W4 _ 3 _ _ _ HR4.out.b2
  have y4 := cell_of_row W4 _ 4 _ _ _ HR4.out.b2
  have y5 := cell_of_row W4 _ 5 _ _ _ HR4.out.b2
  have y6 := cell_of_row W4 _ 6 _ _ _ HR4.out.b2
  have y7 := cell_of_row W4 _ 7 _ _ _ HR4.out.b2
  have y8 := cell_of_row W4 _ 8 _ _ _ HR4.out.b2
  simp only [List.getElem?_toArray, List.getElem?_cons_zero, List.getElem?_cons_succ] at y0 y1 y2 y3 y4 y5 y6 y7 y8
  have CX := hide (HVA.out W4 _ HR4.out.sr)
  unfold St9.agg at CX
  simp only at CX
  go_upto_region 5 with (go_at_call 10; refine CX.out.mono ?_; rintro e W5 hex; obtain ⟨p1, q1, p2, q2, rfl, hb, r1, r2⟩ := HEX.out _ _ _ hex)
  have HR5 := hide (HR4.out.call hb)
  have R1 := hide r1
  have R2 := hide r2
  clear CX hb HR4 y0 y1 y2 y3 y4 y5 y6 y7 y8 r1 r2 hex
  have y0 := cell_of_row W5 _ 0 _ _ _ HR5.out.b0
  have y1 := cell_of_row W5 _ 1 _ _ _ HR5.out.b0
  have y2 := cell_of_row W5 _ 2 _ _ _ HR5.out.b0
  have y3 := cell_of_row W5 _ 3 _ _ _ HR5.out.b0
  have y4 := cell_of_row W5 _ 4 _ _ _ HR5.out.b0
  have y5 := cell_of_row W5 _ 5 _ _ _ HR5.out.b0
  have y6 := cell_of_row W5 _ 6 _ _ _ HR5.out.b0
  have y7 := cell_of_row W5 _ 7 _ _ _ HR5.out.b0
  have y8 := cell_of_row W5 _ 8 _ _ _ HR5.out.b0
  simp only [List.getElem?_toArray, List.getElem?_cons_zero, List.getElem?_cons_succ] at y0 y1 y2 y3 y4 y5 y6 y7 y8
  have CX := hide (HVB.out W5 _ (SR.go HR5.out.low HS.out))
  unfold St9.agg at CX
  simp only at CX
  go_upto_region 6 with (go_at_call 11; refine CX.out.mono ?_; rintro e W6 hex; obtain ⟨p3, q3, p4, q4, rfl, hb, r3, r4⟩ := HEX.out _ _ _ hex)
  have HR6 := hide (HR5.out.call hb)
  have R1' := hide (owns_keep R1.out fun g hg => hb.block g (owns_lt R1.out hg))
  have R2' := hide (owns_keep R2.out fun g hg => hb.block g (owns_lt R2.out hg))
  have R3 := hide r3
  have R4 := hide r4
  clear CX hb HR5 y0 y1 y2 y3 y4 y5 y6 y7 y8 r3 r4 hex R1 R2
  have hlim : nm.length ≤ 140737488351232 := HLI.out
  have CN := hide (num_any cc W6)
  go_wp2_with fail
  refine CN.out.mono ?_
  rintro _ W6' ⟨rfl, hw⟩
  subst W6'
  have CS := hide (sameS_any (c := q1) (d := q3) (owns_at1 (owns_down R1'.out (Nat.zero_le _))) (owns_at1 (owns_down R3.out (Nat.zero_le _))) hlim)
  rw [decide_eq_true rfl] at CS
  go_wp2_with fail
  refine CS.out.mono ?_
  rintro _ W7 ⟨rfl, qd, hw⟩
  have hb7 : Below W6.heap.size W6 W7 := by rw [hw]; exact below_drewN _ _
  have HR7 := hide (HR6.out.call hb7)
  have R2'' := hide (owns_keep R2'.out fun g hg => hb7.block g (owns_lt R2'.out hg))
  have R4' := hide (owns_keep R4.out fun g hg => hb7.block g (owns_lt R4.out hg))
  clear CN CS hw hb7 HR6 R1' R2' R3 R4
  have CI := hide (sameI_of (owns_down R2''.out (Nat.zero_le _)) (owns_down R4'.out (Nat.zero_le _)) HOL.out hlim)
  go_wp2_with fail
  refine CI.out.mono ?_
  rintro _ W8 ⟨rfl, hb8⟩
  have HR8 := hide (HR7.out.call hb8)
  clear CI hb8 HR7 R2'' R4' hlim
  have CN := hide (num_any vc W8)
  go_wp2_with fail
  refine CN.out.mono ?_
  rintro _ W8' ⟨rfl, hw⟩
  subst W8'
  have y0 := cell_of_row W8 _ 0 _ _ _ HR8.out.b2
  have y1 := cell_of_row W8 _ 1 _ _ _ HR8.out.b2
  have y2 := cell_of_row W8 _ 2 _ _ _ HR8.out.b2
  have y3 := cell_of_row W8 _ 3 _ _ _ HR8.out.b2
  have y4 := cell_of_row W8 _ 4 _ _ _ HR8.out.b2
  have y5 := cell_of_row W8 _ 5 _ _ _ HR8.out.b2
  have y6 := cell_of_row W8 _ 6 _ _ _ HR8.out.b2
  have y7 := cell_of_row W8 _ 7 _ _ _ HR8.out.b2
  have y8 := cell_of_row W8 _ 8 _ _ _ HR8.out.b2
  have d0 := cell_of_row W8 _ 0 _ _ _ HR8.out.b0
  have d1 := cell_of_row W8 _ 1 _ _ _ HR8.out.b0
  have d2 := cell_of_row W8 _ 2 _ _ _ HR8.out.b0
  have d3 := cell_of_row W8 _ 3 _ _ _ HR8.out.b0
  have d4 := cell_of_row W8 _ 4 _ _ _ HR8.out.b0
  have d5 := cell_of_row W8 _ 5 _ _ _ HR8.out.b0
  have d6 := cell_of_row W8 _ 6 _ _ _ HR8.out.b0
  have d7 := cell_of_row W8 _ 7 _ _ _ HR8.out.b0
  have d8 := cell_of_row W8 _ 8 _ _ _ HR8.out.b0
  simp only [List.getElem?_toArray, List.getElem?_cons_zero, List.getElem?_cons_succ] at y0 y1 y2 y3 y4 y5 y6 y7 y8 d0 d1 d2 d3 d4 d5 d6 d7 d8
  have CT := hide (sameSt_yes HR8.out.sr (SR.go HR8.out.low HS.out) rfl rfl)
  unfold St9.agg at CT
  simp only at CT
  go_wp2_with fail
  refine CT.out.mono ?_
  rintro _ W9 ⟨rfl, hb9⟩
  have HR9 := hide (HR8.out.call hb9)
  clear CT CN hb9 HR8 y0 y1 y2 y3 y4 y5 y6 y7 y8 d0 d1 d2 d3 d4 d5 d6 d7 d8
  have CV := hide (works_any W9)
  go_wp2_with fail
  refine CV.out.mono ?_
  rintro _ W10 ⟨rfl, hb10⟩
  have HR10 := hide (HR9.out.call hb10)
  clear CV hb10 HR9
  go_wp2_with fail
  go_ret
  exact ⟨rfl, HR10.out.low⟩
end Go.Proofs.YtfnobccminhjpaaGreat
