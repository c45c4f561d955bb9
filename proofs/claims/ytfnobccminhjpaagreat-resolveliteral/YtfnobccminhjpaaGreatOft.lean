/- The program's Of: the members of a kind. -/
import Derived.Test.YtfnobccminhjpaaGreatOpenZ9
import Derived.Test.YtfnobccminhjpaaGreatPrg9
import Derived.Test.YtfnobccminhjpaaGreatSamX9
namespace Go.Proofs.YtfnobccminhjpaaGreat
open Go.RowKit Go.Shelf Go.Maps Go.WideMaps

/-- What has been gathered when i members have been asked. -/
structure OI (w : World) (bx M : Nat) (kinds : List Bytes) (L : List Int) (mv : Value) (wr : World) : Prop where
  low : Below w.heap.size w wr
  map : KMap 9 wr M kinds
  row : wr.ownsRow w.heap.size 3 1 mv L.length (ints L)
  far : w.heap.size ≤ M
theorem OI.below {w : World} {bx M : Nat} {kinds : List Bytes} {L : List Int} {mv : Value} {wr w' : World} (h : OI w bx M kinds L mv wr) (hb : Below wr.heap.size wr w') : OI w bx M kinds L mv w' :=
  ⟨h.low.trans (hb.mono h.low.size), h.map.keep (hb.block _ h.map.lt), owns_keep h.row fun g hg => hb.block g (owns_lt h.row hg), h.far⟩

theorem OI.grow {w : World} {bx M : Nat} {kinds : List Bytes} {L : List Int} {mv : Value} {wd w4 : World} {z : Int} {ob : Obj} {g4 cap4 : Nat} (h : OI w bx M kinds L mv wd) (hown : w4.ownsRow w.heap.size 3 1 (.slice (some ⟨g4, 0, none⟩) (L.length + 1) cap4) (L.length + 1) (ints L ++ [.int .i64 z]))
    (hg : (mv.ownBlock = some g4 ∧ (wd.alloc ob).grownBy w4 (some g4)) ∨ (g4 = wd.heap.size + 1 ∧ (wd.alloc ob).grownBy w4 none)) : OI w bx M kinds (L ++ [z]) (.slice (some ⟨g4, 0, none⟩) (L.length + 1) cap4) w4 := by
  have hr0 := h.row
  have e1 : (L ++ [z]).length = L.length + 1 := by simp
  have e2 : ints (L ++ [z]) = ints L ++ [.int .i64 z] := by unfold ints; simp
  have hr : wd.ownsRow 0 3 1 mv L.length (ints L) := by
    obtain ⟨h1, h2⟩ := hr0
    refine ⟨h1, ?_⟩
    rcases h2 with h2 | ⟨g, cap, cur, e, _, h4⟩
    · exact .inl h2
    · exact .inr ⟨g, cap, cur, e, Nat.zero_le _, h4⟩
  have hfr := grown_fr (Z := fun k => w.heap.size ≤ k) rfl hg fun g e => (hr0.lt g e).1
  exact ⟨h.low.trans (hfr.below fun k hk => ⟨Nat.lt_of_lt_of_le hk h.low.size, by show ¬ w.heap.size ≤ k; omega⟩), h.map.keep (grown_old rfl hg h.map.lt (own_neM hr h.map)), by rw [e1, e2]; exact hown, h.far⟩
section
variable {S : StatM} {st : St9} {w : World}
set_option maxRecDepth 100000 in
set_option maxHeartbeats 6400000 in
theorem of_any (h : SR w.heap.size w S st) (hm4 : S.members.length * 24 ≤ 140737488351232) (k : Int) : Calls Tryz.prog 33 #[st.agg, .int .i64 k] w fun e w' => ∃ v, e = .returned v ∧ w'.ownsRow w.heap.size 3 1 v (ofL S.kinds k S.members).length (ints (ofL S.kinds k S.members)) ∧ Below w.heap.size w w' := by
  have hk4 : S.kinds.length ≤ 140737488351232 := by obtain ⟨_, _, _, _, h9⟩ := h.kinds.form; exact h9
  obtain ⟨tt, ht⟩ := h.title
  obtain ⟨a1, b1, f1, _, _⟩ := h.kinds.form
  obtain ⟨a2, b2, f2, _, _⟩ := h.members.form
  obtain ⟨a3, b3, f3, _, _⟩ := h.preds.form
  obtain ⟨a4, b4, f4, _, _⟩ := h.classes.form
  obtain ⟨a5, b5, f5, _, _⟩ := h.sources.form
  obtain ⟨a6, b6, f6, _, _⟩ := h.rules.form
  obtain ⟨a7, b7, f7, _, _⟩ := h.excepts.form
  obtain ⟨a8, b8, f8, _, _⟩ := h.totals.form
  obtain ⟨s0, s1, s2, s3, s4, s5, s6, s7, s8⟩ := st
  simp only at ht f1 f2 f3 f4 f5 f6 f7 f8
  subst ht f1 f2 f3 f4 f5 f6 f7 f8
  have hA : Below w.heap.size w (w.alloc (.cells #[.string tt, .slice a1 S.kinds.length b1, .slice a2 S.members.length b2, .slice a3 S.preds.length b3, .slice a4 S.classes.length b4, .slice a5 S.sources.length b5, .slice a6 S.rules.length b6, .slice a7 S.excepts.length b7, .slice a8 S.totals.length b8] 31)) := (Below.refl _ w).alloc (Nat.le_refl _) _
  have CN := hide (numK_any (RR.keep h.kinds (w' := (w.alloc (.cells #[.string tt, .slice a1 S.kinds.length b1, .slice a2 S.members.length b2, .slice a3 S.preds.length b3, .slice a4 S.classes.length b4, .slice a5 S.sources.length b5, .slice a6 S.rules.length b6, .slice a7 S.excepts.length b7, .slice a8 S.totals.length b8] 31))) (fun g hg => hA.block g hg) (fun _ _ hx => hx)) hA.size hk4)
  have hbx : (w.alloc (.cells #[.string tt, .slice a1 S.kinds.length b1, .slice a2 S.members.length b2, .slice a3 S.preds.length b3, .slice a4 S.classes.length b4, .slice a5 S.sources.length b5, .slice a6 S.rules.length b6, .slice a7 S.excepts.length b7, .slice a8 S.totals.length b8] 31)).cell? ⟨w.heap.size, 2, none⟩ = some (.slice a2 S.members.length b2) := cell_of_row _ _ 2 _ _ _ (heap_alloc_new w _)
  rw [List.map_id] at CN
  have HA := hide hA
  have HBX := hide hbx
  have HM := hide h.members
  obtain ⟨iM, hiM, zM0, zM1, zM2⟩ := info_parts' infoI
  unfold St9.agg
  simp only at *
  clear h hA hbx
  go_enter Tryz.func33, Tryz.ntmps33
  go_wp2_with (go_at_call 88; refine CN.out.mono ?_; rintro _ w1 ⟨rfl, hm1, hb1⟩; have O1 : Hid (OI w w.heap.size (w.heap.size + 1) S.kinds [] (.slice none 0 0) w1) := hide ⟨HA.out.trans (hb1.mono HA.out.size), (by have hz : (w.alloc (.cells #[.string tt, .slice a1 S.kinds.length b1, .slice a2 S.members.length b2, .slice a3 S.preds.length b3, .slice a4 S.classes.length b4, .slice a5 S.sources.length b5, .slice a6 S.rules.length b6, .slice a7 S.excepts.length b7, .slice a8 S.totals.length b8] 31)).heap.size = w.heap.size + 1 := (by simp); rw [hz] at hm1; exact hm1), ⟨rfl, .inl ⟨rfl, rfl⟩⟩, Nat.le_succ _⟩; have x2 := (World.cell?_of_block (hb1.block w.heap.size (by simp))).trans HBX.out; clear hm1 hb1 CN)
  clear HA HBX x2
  go_loopw [6, 17] (fun mv x wr => ∃ (i : Nat) (a0 : Option Addr) (c0 : Nat), i ≤ S.members.length ∧ x = .int .i64 i ∧ mv = .slice a0 (ofL S.kinds k (S.members.take i)).length c0 ∧ Hid (OI w w.heap.size (w.heap.size + 1) S.kinds (ofL S.kinds k (S.members.take i)) (.slice a0 (ofL S.kinds k (S.members.take i)).length c0) wr)) (fun _ x _ => S.members.length - (intOf x).toNat)
  case atStart => exact ⟨0, none, 0, by omega, rfl, rfl, O1⟩
  case round =>
    clear O1
    obtain ⟨i, a0, c0, hi, rfl, rfl, HO⟩ := hrel
    by_cases hlt : i < S.members.length
    · obtain ⟨x, hx⟩ : ∃ x, S.members[i]? = some x := ⟨S.members[i], List.getElem?_eq_getElem hlt⟩
      have HSt := hide (ofL_step (kinds := S.kinds) (k := k) hx)
      have HLe := ofL_le (kinds := S.kinds) (k := k) (l := S.members) i
      have hr := RR.keep HM.out (w' := wr) (fun g hg => HO.out.low.block g hg) (fun _ _ h => h)
      obtain ⟨g, o, rfl, hg, d0, d1, hs, hs2⟩ := at_M hr hx
      have HG : Hid (g < wr.heap.size) := hide (Nat.lt_of_lt_of_le hg HO.out.low.size)
      clear hr hx hg
      unfold str at d0 d1
      have hA2 : Below wr.heap.size wr (wr.alloc (.cells #[.string ⟨x.1.toArray⟩, .string ⟨x.2.toArray⟩] 73)) := (Below.refl _ _).alloc (Nat.le_refl _) _
      have HO2 := hide (HO.out.below hA2)
      clear hA2
      generalize ofL S.kinds k (S.members.take i) = L at *
      obtain ⟨nn, D, hown, hNum, _⟩ := HO2.out.map
      have HN := hide (hNum x.2)
      have HK := hide (key_mk hs2)
      clear hNum
      go_upto_region 7 with (at_lookup; go_must (refine wpList_lookup_own_ok_int _ rfl _ _ 98 rfl 9 3 .i64 law Tryz.underlying98 Tryz.underlying3 (Tryz.zeroValue3 _) (w.heap.size + 1) nn _ rfl hown _ _ rfl HK.out ?_); intro cc hat hwc; have hc : cc = posB S.kinds x.2 := (by have h9 := hat.symm.trans HN.out.2; injection h9 with e; injection e); have hh := HN.out.1; subst hc; clear hat hwc HN hown; rw [hh]; clear hh)
      by_cases hin : x.2 ∈ S.kinds
      · rw [decide_eq_true hin]
        by_cases heq : (posB S.kinds x.2 : Int) = k
        · have hp : ofP S.kinds k x = true := by unfold ofP; rw [decide_eq_true hin, decide_eq_true heq]; rfl
          have hbq : ((posB S.kinds x.2 : Int) == k) = true := by simpa using heq
          rw [hp] at HSt
          simp only [if_true] at HSt
          have HROW := hide HO2.out.row
          have HL1 := HO2.out.low.size
          generalize (wr.alloc (.cells #[.string ⟨x.1.toArray⟩, .string ⟨x.2.toArray⟩] 73)) = wd at *
          clear heq hp
          go_wp2_with (at_builtin; go_must (refine wpList_append_two _ rfl _ _ 38 rfl w.heap.size 3 iM _ 1 8 Tryz.underlying38 hiM zM0 zM1 zM2 rfl (by decide) _ _ _ rfl (HROW.out.alloc _) ⟨wd.heap.size, 0, none⟩ 1 [.int .i64 i] rfl rfl (news_at rfl) (by simp [Value.oneCell']) (by unfold maxLen; omega) (by omega) (by simp; omega) ?_); intro g4 cap4 w4 hown4 hg4)
          have hz : (wd.alloc (.cells #[.int .i64 (i : Int)] 3)).heap.size = wd.heap.size + 1 := by simp
          rw [hz] at hg4
          refine ⟨⟨i + 1, some ⟨g4, 0, none⟩, cap4, by omega, by go_num, by rw [HSt.out]; simp, ?_⟩, by simp [intOf]; omega⟩
          have e1 : (L ++ [(i : Int)]).length = L.length + 1 := by simp
          rw [HSt.out, e1]
          exact hide (HO2.out.grow hown4 hg4)
        · have hp : ofP S.kinds k x = false := by unfold ofP; rw [decide_eq_false heq, Bool.and_false]
          have hbq : ((posB S.kinds x.2 : Int) == k) = false := by simpa using heq
          rw [hp] at HSt
          simp only [Bool.false_eq_true, if_false, List.append_nil] at HSt
          go_wp2_with fail
          go_roundw
          case rel => exact ⟨i + 1, a0, c0, by omega, by go_num, by rw [HSt.out], by rw [HSt.out]; exact HO2⟩
          case measure => simp [intOf]; omega
      · rw [decide_eq_false hin]
        have hp : ofP S.kinds k x = false := by unfold ofP; rw [decide_eq_false hin, Bool.false_and]
        rw [hp] at HSt
        simp only [Bool.false_eq_true, if_false, List.append_nil] at HSt
        go_wp2_with fail
        go_roundw
        case rel => exact ⟨i + 1, a0, c0, by omega, by go_num, by rw [HSt.out], by rw [HSt.out]; exact HO2⟩
        case measure => simp [intOf]; omega
    · have hk' : i = S.members.length := by omega
      subst hk'
      have HE := hide (List.take_of_length_le (Nat.le_refl S.members.length))
      rw [HE.out] at HO ⊢
      go_wp2_with fail
      go_ret
      exact ⟨_, rfl, HO.out.row, HO.out.low⟩
end
end Go.Proofs.YtfnobccminhjpaaGreat
/- Two lists of numbers that are one. -/
namespace Go.Proofs.YtfnobccminhjpaaGreat
open Go.RowKit Go.Shelf Go.Maps Go.WideMaps

theorem ints_at {l : List Int} {i : Nat} (hi : i < l.length) : (ints l)[i]? = some (.int .i64 (l.getD i 0)) := by
  unfold ints
  rw [List.getElem?_map, List.getElem?_eq_getElem hi]
  simp [List.getD, hi]

set_option maxRecDepth 100000 in
set_option maxHeartbeats 3200000 in
theorem sameI_any {l : List Int} {va vb : Value} {w : World} (ha : w.ownsRow 0 3 1 va l.length (ints l)) (hb : w.ownsRow 0 3 1 vb l.length (ints l)) (hl : l.length ≤ 140737488351232) :
    Calls Tryz.prog 14 #[va, vb] w fun e w' => e = .returned (.bool true) ∧ Below w.heap.size w w' := by
  have HA := hide ha
  have HB := hide hb
  obtain ⟨aa, ca, rfl⟩ := owns_slice ha
  obtain ⟨ab, cb, rfl⟩ := owns_slice hb
  clear ha hb
  go_enter Tryz.func14, Tryz.ntmps14
  go_wp2_with fail
  go_loopw [5] (fun x wr => ∃ k q : Nat, k ≤ l.length ∧ x = .int .i64 k ∧ wr = w.drewN q) (fun x _ => l.length - (intOf x).toNat)
  case atStart => exact ⟨0, 0, by omega, rfl, rfl⟩
  case round =>
    obtain ⟨k, q, hk, rfl, rfl⟩ := hrel
    by_cases hlt : k < l.length
    · obtain ⟨ga, xa, e1, a0, -, -⟩ := owns_at HA.out (ints_at hlt)
      obtain ⟨gb, xb, e2, b0, -, -⟩ := owns_at HB.out (ints_at hlt)
      simp only [Value.slice.injEq] at e1 e2
      obtain ⟨rfl, -, rfl⟩ := e1
      obtain ⟨rfl, -, rfl⟩ := e2
      generalize l.getD k 0 = t at a0 b0
      go_wp2_with fail
      go_quiet (fail)
      go_wp2_with fail
      go_roundw
      case rel => exact ⟨k + 1, _, by omega, by go_num, rfl⟩
      case measure => simp [intOf]; omega
    · go_wp2_with fail
      go_ret
      exact ⟨rfl, below_drewN w q⟩
theorem sameI_of {l : List Int} {n : Nat} {va vb : Value} {w : World} (ha : w.ownsRow 0 3 1 va n (ints l)) (hb : w.ownsRow 0 3 1 vb n (ints l)) (hn : l.length = n) (hl : n ≤ 140737488351232) :
    Calls Tryz.prog 14 #[va, vb] w fun e w' => e = .returned (.bool true) ∧ Below w.heap.size w w' := by
  subst hn
  exact sameI_any ha hb hl
end Go.Proofs.YtfnobccminhjpaaGreat
/- Two texts of one literal are the same. -/
namespace Go.Proofs.YtfnobccminhjpaaGreat
open Go.RowKit Go.Shelf Go.Maps Go.WideMaps

theorem two_boxes (w : World) (o1 o2 : Obj) : Below w.heap.size w ((w.alloc o1).alloc o2) ∧ ((w.alloc o1).alloc o2).heap[w.heap.size]? = some o1 ∧ ((w.alloc o1).alloc o2).heap[w.heap.size + 1]? = some o2 := by
  have hs1 : (w.alloc o1).heap.size = w.heap.size + 1 := by simp
  have hA1 : Below w.heap.size w (w.alloc o1) := (Below.refl _ w).alloc (Nat.le_refl _) _
  refine ⟨hA1.alloc (by omega) _, (Below.heap_alloc _ o2 _ (by omega)).trans (heap_alloc_new w o1), ?_⟩
  have := heap_alloc_new (w.alloc o1) o2
  rw [hs1] at this
  exact this
set_option maxRecDepth 100000 in
set_option maxHeartbeats 3200000 in
theorem sameLT_yes {w : World} {l : LitM} {aa ba : Option Addr} {ac bc : Nat} (ha : At1 w aa (strs l.args)) (hb : At1 w ba (strs l.args)) (hl : l.args.length ≤ 140737488351232) :
    Calls Tryz.prog 39 #[.agg #[.bool l.neg, .string ⟨l.pred.toArray⟩, .slice aa l.args.length ac, .bool l.hasValue, .int .i64 l.value], .agg #[.bool l.neg, .string ⟨l.pred.toArray⟩, .slice ba l.args.length bc, .bool l.hasValue, .int .i64 l.value]] w fun e w' => e = .returned (.bool true) ∧ Below w.heap.size w w' := by
  obtain ⟨hA, h1, h2⟩ := two_boxes w (.cells #[.bool l.neg, .string ⟨l.pred.toArray⟩, .slice aa l.args.length ac, .bool l.hasValue, .int .i64 l.value] 59) (.cells #[.bool l.neg, .string ⟨l.pred.toArray⟩, .slice ba l.args.length bc, .bool l.hasValue, .int .i64 l.value] 59)
  have HA := hide hA
  have CS := hide (sameS_any (c := ac) (d := bc) (At1.below ha hA) (At1.below hb hA) hl)
  rw [decide_eq_true rfl] at CS
  have a0 := cell_of_row _ _ 0 _ _ _ h1
  have b0 := cell_of_row _ _ 0 _ _ _ h2
  have a1 := cell_of_row _ _ 1 _ _ _ h1
  have b1 := cell_of_row _ _ 1 _ _ _ h2
  have a2 := cell_of_row _ _ 2 _ _ _ h1
  have b2 := cell_of_row _ _ 2 _ _ _ h2
  have a3 := cell_of_row _ _ 3 _ _ _ h1
  have b3 := cell_of_row _ _ 3 _ _ _ h2
  have a4 := cell_of_row _ _ 4 _ _ _ h1
  have b4 := cell_of_row _ _ 4 _ _ _ h2
  simp only [List.getElem?_toArray, List.getElem?_cons_zero, List.getElem?_cons_succ] at a0 a1 a2 a3 a4 b0 b1 b2 b3 b4
  clear ha hb hA h1 h2
  go_enter Tryz.func39, Tryz.ntmps39
  go_upto_region 1 with fail
  generalize (w.alloc (.cells #[.bool l.neg, .string ⟨l.pred.toArray⟩, .slice aa l.args.length ac, .bool l.hasValue, .int .i64 l.value] 59)).alloc (.cells #[.bool l.neg, .string ⟨l.pred.toArray⟩, .slice ba l.args.length bc, .bool l.hasValue, .int .i64 l.value] 59) = w2 at *
  go_wp2_with (go_at_call 13; refine CS.out.mono ?_; rintro _ w3 ⟨rfl, m, hw⟩; subst w3)
  go_ret
  exact ⟨rfl, HA.out.trans ((below_drewN w2 m).mono HA.out.size)⟩
set_option maxRecDepth 100000 in
set_option maxHeartbeats 3200000 in
theorem sameAt_yes {w : World} {l : List Int} {n : Nat} {pr va : Int} {xa ya : Option Addr} {xc yc : Nat} (ha : w.ownsRow 0 3 1 (.slice xa n xc) n (ints l)) (hb : w.ownsRow 0 3 1 (.slice ya n yc) n (ints l)) (hn : l.length = n) (hl : n ≤ 140737488351232) :
    Calls Tryz.prog 95 #[.agg #[.int .i64 pr, .slice xa n xc, .int .i64 va], .agg #[.int .i64 pr, .slice ya n yc, .int .i64 va]] w fun e w' => e = .returned (.bool true) ∧ Below w.heap.size w w' := by
  obtain ⟨hA, h1, h2⟩ := two_boxes w (.cells #[.int .i64 pr, .slice xa n xc, .int .i64 va] 62) (.cells #[.int .i64 pr, .slice ya n yc, .int .i64 va] 62)
  have HA := hide hA
  have CS := hide (sameI_of (owns_keep ha fun g hg => hA.block g (owns_lt ha hg)) (owns_keep hb fun g hg => hA.block g (owns_lt hb hg)) hn hl)
  have a0 := cell_of_row _ _ 0 _ _ _ h1
  have b0 := cell_of_row _ _ 0 _ _ _ h2
  have a1 := cell_of_row _ _ 1 _ _ _ h1
  have b1 := cell_of_row _ _ 1 _ _ _ h2
  have a2 := cell_of_row _ _ 2 _ _ _ h1
  have b2 := cell_of_row _ _ 2 _ _ _ h2
  simp only [List.getElem?_toArray, List.getElem?_cons_zero, List.getElem?_cons_succ] at a0 b0 a1 b1 a2 b2
  have HS2 := hide (Below.refl w.heap.size w)
  clear ha hb hA h1 h2
  go_enter Tryz.func95, Tryz.ntmps95
  go_upto_region 1 with fail
  have hsz : w.heap.size + 1 < ((w.alloc (.cells #[.int .i64 pr, .slice xa n xc, .int .i64 va] 62)).alloc (.cells #[.int .i64 pr, .slice ya n yc, .int .i64 va] 62)).heap.size := by simp
  generalize (w.alloc (.cells #[.int .i64 pr, .slice xa n xc, .int .i64 va] 62)).alloc (.cells #[.int .i64 pr, .slice ya n yc, .int .i64 va] 62) = w2 at *
  go_wp2_with (go_at_call 14; refine CS.out.mono ?_; rintro _ w3 ⟨rfl, hb3⟩; have HB3 := hide hb3; have a9 := (World.cell?_of_block (hb3.block w.heap.size (by omega))).trans a2; have b9 := (World.cell?_of_block (hb3.block (w.heap.size + 1) (by omega))).trans b2; clear hb3)
  go_ret
  exact ⟨rfl, HA.out.trans (HB3.out.mono HA.out.size)⟩
set_option maxRecDepth 100000 in
set_option maxHeartbeats 3200000 in
theorem sameLit_yes {w : World} {l : List Int} {n : Nat} {pr va dp : Int} {ng : Bool} {xa ya : Option Addr} {xc yc : Nat} (ha : w.ownsRow 0 3 1 (.slice xa n xc) n (ints l)) (hb : w.ownsRow 0 3 1 (.slice ya n yc) n (ints l)) (hn : l.length = n) (hl : n ≤ 140737488351232) :
    Calls Tryz.prog 38 #[.agg #[.bool ng, .int .i64 pr, .slice xa n xc, .int .i64 va, .int .i64 dp], .agg #[.bool ng, .int .i64 pr, .slice ya n yc, .int .i64 va, .int .i64 dp]] w fun e w' => e = .returned (.bool true) ∧ Below w.heap.size w w' := by
  obtain ⟨hA, h1, h2⟩ := two_boxes w (.cells #[.bool ng, .int .i64 pr, .slice xa n xc, .int .i64 va, .int .i64 dp] 64) (.cells #[.bool ng, .int .i64 pr, .slice ya n yc, .int .i64 va, .int .i64 dp] 64)
  have HA := hide hA
  have CS := hide (sameAt_yes (pr := pr) (va := va) (owns_keep ha fun g hg => hA.block g (owns_lt ha hg)) (owns_keep hb fun g hg => hA.block g (owns_lt hb hg)) hn hl)
  have a0 := cell_of_row _ _ 0 _ _ _ h1
  have b0 := cell_of_row _ _ 0 _ _ _ h2
  have a1 := cell_of_row _ _ 1 _ _ _ h1
  have b1 := cell_of_row _ _ 1 _ _ _ h2
  have a2 := cell_of_row _ _ 2 _ _ _ h1
  have b2 := cell_of_row _ _ 2 _ _ _ h2
  have a3 := cell_of_row _ _ 3 _ _ _ h1
  have b3 := cell_of_row _ _ 3 _ _ _ h2
  have a4 := cell_of_row _ _ 4 _ _ _ h1
  have b4 := cell_of_row _ _ 4 _ _ _ h2
  simp only [List.getElem?_toArray, List.getElem?_cons_zero, List.getElem?_cons_succ] at a0 b0 a1 b1 a2 b2 a3 b3 a4 b4
  have HS2 := hide (Below.refl w.heap.size w)
  clear ha hb hA h1 h2
  go_enter Tryz.func38, Tryz.ntmps38
  go_upto_region 1 with fail
  have hsz : w.heap.size + 1 < ((w.alloc (.cells #[.bool ng, .int .i64 pr, .slice xa n xc, .int .i64 va, .int .i64 dp] 64)).alloc (.cells #[.bool ng, .int .i64 pr, .slice ya n yc, .int .i64 va, .int .i64 dp] 64)).heap.size := by simp
  generalize (w.alloc (.cells #[.bool ng, .int .i64 pr, .slice xa n xc, .int .i64 va, .int .i64 dp] 64)).alloc (.cells #[.bool ng, .int .i64 pr, .slice ya n yc, .int .i64 va, .int .i64 dp] 64) = w2 at *
  go_wp2_with (go_at_call 95; refine CS.out.mono ?_; rintro _ w3 ⟨rfl, hb3⟩; have HB3 := hide hb3; have a9 := (World.cell?_of_block (hb3.block w.heap.size (by omega))).trans a4; have b9 := (World.cell?_of_block (hb3.block (w.heap.size + 1) (by omega))).trans b4; clear hb3)
  go_ret
  exact ⟨rfl, HA.out.trans (HB3.out.mono HA.out.size)⟩
end Go.Proofs.YtfnobccminhjpaaGreat
