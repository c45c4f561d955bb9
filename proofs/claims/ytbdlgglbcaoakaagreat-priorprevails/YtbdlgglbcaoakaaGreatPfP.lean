/- The page's prevails. -/
import Derived.Test.YtbdlgglbcaoakaaGreatPoM
import Derived.Deep.RegionHeld3
import Derived.Test.YtbdlgglbcaoakaaGreatNum8
import Derived.Test.YtbdlgglbcaoakaaGreatFirst8
namespace Go.Proofs.YtbdlgglbcaoakaaGreat
open Go.RowKit Go.Shelf Go.Maps Go.WideMaps
abbrev Sx9 (wz : World) (q : Nat) (u0 u1 u2 u3 u4 u5 u6 u7 u8 : Value) (X : World) : Prop := X.cell? ⟨q, 0, none⟩ = some u0 ∧ X.cell? ⟨q, 1, none⟩ = some u1 ∧ X.cell? ⟨q, 2, none⟩ = some u2 ∧ X.cell? ⟨q, 3, none⟩ = some u3 ∧ X.cell? ⟨q, 4, none⟩ = some u4 ∧ X.cell? ⟨q, 5, none⟩ = some u5 ∧ X.cell? ⟨q, 6, none⟩ = some u6 ∧ X.cell? ⟨q, 7, none⟩ = some u7 ∧ X.cell? ⟨q, 8, none⟩ = some u8 ∧ q < wz.heap.size ∧ Below wz.heap.size wz X
theorem Sx9.b {wz X : World} {q : Nat} {u0 u1 u2 u3 u4 u5 u6 u7 u8 : Value} (h : Sx9 wz q u0 u1 u2 u3 u4 u5 u6 u7 u8 X) : Below wz.heap.size wz X := h.2.2.2.2.2.2.2.2.2.2
theorem Sx9.drew {wz X : World} {q : Nat} {u0 u1 u2 u3 u4 u5 u6 u7 u8 : Value} (h : Sx9 wz q u0 u1 u2 u3 u4 u5 u6 u7 u8 X) : Sx9 wz q u0 u1 u2 u3 u4 u5 u6 u7 u8 X.drew := ⟨h.1, h.2.1, h.2.2.1, h.2.2.2.1, h.2.2.2.2.1, h.2.2.2.2.2.1, h.2.2.2.2.2.2.1, h.2.2.2.2.2.2.2.1, h.2.2.2.2.2.2.2.2.1, h.2.2.2.2.2.2.2.2.2.1, h.2.2.2.2.2.2.2.2.2.2.drew⟩
theorem Sx9.below {wz X Y : World} {q : Nat} {u0 u1 u2 u3 u4 u5 u6 u7 u8 : Value} (h : Sx9 wz q u0 u1 u2 u3 u4 u5 u6 u7 u8 X) (hb : Below X.heap.size X Y) : Sx9 wz q u0 u1 u2 u3 u4 u5 u6 u7 u8 Y := by
  have hq : q < X.heap.size := Nat.lt_of_lt_of_le h.2.2.2.2.2.2.2.2.2.1 h.b.size
  exact ⟨(World.cell?_of_block (hb.block q hq)).trans h.1, (World.cell?_of_block (hb.block q hq)).trans h.2.1, (World.cell?_of_block (hb.block q hq)).trans h.2.2.1, (World.cell?_of_block (hb.block q hq)).trans h.2.2.2.1, (World.cell?_of_block (hb.block q hq)).trans h.2.2.2.2.1, (World.cell?_of_block (hb.block q hq)).trans h.2.2.2.2.2.1, (World.cell?_of_block (hb.block q hq)).trans h.2.2.2.2.2.2.1, (World.cell?_of_block (hb.block q hq)).trans h.2.2.2.2.2.2.2.1, (World.cell?_of_block (hb.block q hq)).trans h.2.2.2.2.2.2.2.2.1, h.2.2.2.2.2.2.2.2.2.1, h.b.trans (hb.mono h.b.size)⟩
section
variable {S : StatM} {st : St9} {w : World}
set_option maxRecDepth 100000 in
set_option maxHeartbeats 12800000 in
theorem rprev_any (h : SR w.heap.size w S st) (hd : ∀ (i j : Nat) (p q : Bytes × Int), S.sources[i]? = some p → S.sources[j]? = some q → p.1 = q.1 → i = j) {a b : Nat} {x y : RuleM} (hx : S.rules[a]? = some x) (hy : S.rules[b]? = some y) :
    Calls Tryz.prog 14 #[st.agg, .int .i64 a, .int .i64 b] w fun e w' => e = .returned (.bool (refP (decide ((x.name, y.name) ∈ S.excepts)) (decide ((y.name, x.name) ∈ S.excepts)) a b (rkV S.sources x.source) (rkV S.sources y.source) x.day y.day)) ∧ Below w.heap.size w w' := by
  have CD1 := hide fun (X : World) (hb : Below w.heap.size w X) => rdecl_any (h.up hb) hx hy
  have CD2 := hide fun (X : World) (hb : Below w.heap.size w X) => rdecl_any (h.up hb) hy hx
  have CR1 := hide fun (X : World) (hb : Below w.heap.size w X) => rrank_any (h.up hb) hd hx
  have CR2 := hide fun (X : World) (hb : Below w.heap.size w X) => rrank_any (h.up hb) hd hy
  obtain ⟨tt, ht⟩ := h.title
  obtain ⟨a1, b1, f1, _, l1⟩ := h.kinds.form
  obtain ⟨a2, b2, f2, _, l2⟩ := h.members.form
  obtain ⟨a3, b3, f3, _, l3⟩ := h.preds.form
  obtain ⟨a4, b4, f4, _, l4⟩ := h.classes.form
  obtain ⟨a5, b5, f5, _, l5⟩ := h.sources.form
  obtain ⟨a6, b6, f6, _, l6⟩ := h.rules.form
  obtain ⟨a7, b7, f7, _, l7⟩ := h.excepts.form
  obtain ⟨a8, b8, f8, _, l8⟩ := h.totals.form
  obtain ⟨s0, s1, s2, s3, s4, s5, s6, s7, s8⟩ := st
  simp only at ht f1 f2 f3 f4 f5 f6 f7 f8
  subst ht f1 f2 f3 f4 f5 f6 f7 f8
  have hA : Below w.heap.size w (w.alloc (.cells #[.string tt, .slice a1 S.kinds.length b1, .slice a2 S.members.length b2, .slice a3 S.preds.length b3, .slice a4 S.classes.length b4, .slice a5 S.sources.length b5, .slice a6 S.rules.length b6, .slice a7 S.excepts.length b7, .slice a8 S.totals.length b8] 31)) := (Below.refl _ w).alloc (Nat.le_refl _) _
  have hbx := heap_alloc_new w (.cells #[.string tt, .slice a1 S.kinds.length b1, .slice a2 S.members.length b2, .slice a3 S.preds.length b3, .slice a4 S.classes.length b4, .slice a5 S.sources.length b5, .slice a6 S.rules.length b6, .slice a7 S.excepts.length b7, .slice a8 S.totals.length b8] 31)
  have ha : a < S.rules.length := (List.getElem?_eq_some_iff.1 hx).1
  have hb : b < S.rules.length := (List.getElem?_eq_some_iff.1 hy).1
  have HS := hide fun (X : World) (hb : Below w.heap.size w X) => h.up hb
  have HX := hide hx
  have HY := hide hy
  have HBX := hide hbx
  have HA := hide hA
  unfold St9.agg at *
  simp only at *
  generalize decide ((x.name, y.name) ∈ S.excepts) = ab at *
  generalize decide ((y.name, x.name) ∈ S.excepts) = ba at *
  generalize rkV S.sources x.source = ra at *
  generalize rkV S.sources y.source = rb at *
  clear h hx hy hA hbx hd
  go_enter Tryz.func14, Tryz.ntmps14
  go_wp2_with fail
  refine (CD1.out _ HA.out).mono ?_
  rintro _ w1 ⟨rfl, hbn⟩
  have HB1 := hide (HA.out.trans (hbn.mono HA.out.size))
  have HX1 := hide ((hbn.block w.heap.size (loc_lt HBX.out)).trans HBX.out)
  clear hbn HA HBX
  cases ab with
  | true =>
    go_wp2_with fail
    go_ret
    exact ⟨rfl, HB1.out⟩
  | false =>
    have k0 := cell_of_row w1 w.heap.size 0 _ _ _ HX1.out
    have k1 := cell_of_row w1 w.heap.size 1 _ _ _ HX1.out
    have k2 := cell_of_row w1 w.heap.size 2 _ _ _ HX1.out
    have k3 := cell_of_row w1 w.heap.size 3 _ _ _ HX1.out
    have k4 := cell_of_row w1 w.heap.size 4 _ _ _ HX1.out
    have k5 := cell_of_row w1 w.heap.size 5 _ _ _ HX1.out
    have k6 := cell_of_row w1 w.heap.size 6 _ _ _ HX1.out
    have k7 := cell_of_row w1 w.heap.size 7 _ _ _ HX1.out
    have k8 := cell_of_row w1 w.heap.size 8 _ _ _ HX1.out
    simp at k0 k1 k2 k3 k4 k5 k6 k7 k8
    by_cases hab : a = b
    · subst hab
      go_wp2_with fail
      go_ret
      exact ⟨by simp [refP], HB1.out⟩
    · have hne : ((a : Int) == (b : Int)) = false := by simp; omega
      have HNE := hide hab
      clear hab
      go_wp2_with fail
      refine (CD2.out _ HB1.out).mono ?_
      rintro _ w2 ⟨rfl, hbn⟩
      have HB2 := hide (HB1.out.trans (hbn.mono HB1.out.size))
      have HX2 := hide ((hbn.block w.heap.size (loc_lt HX1.out)).trans HX1.out)
      clear hbn HB1 HX1 k0 k1 k2 k3 k4 k5 k6 k7 k8
      cases ba with
      | true =>
        go_wp2_with fail
        go_ret
        exact ⟨by simp [refP], HB2.out⟩
      | false =>
        have k0 := cell_of_row w2 w.heap.size 0 _ _ _ HX2.out
        have k1 := cell_of_row w2 w.heap.size 1 _ _ _ HX2.out
        have k2 := cell_of_row w2 w.heap.size 2 _ _ _ HX2.out
        have k3 := cell_of_row w2 w.heap.size 3 _ _ _ HX2.out
        have k4 := cell_of_row w2 w.heap.size 4 _ _ _ HX2.out
        have k5 := cell_of_row w2 w.heap.size 5 _ _ _ HX2.out
        have k6 := cell_of_row w2 w.heap.size 6 _ _ _ HX2.out
        have k7 := cell_of_row w2 w.heap.size 7 _ _ _ HX2.out
        have k8 := cell_of_row w2 w.heap.size 8 _ _ _ HX2.out
        simp at k0 k1 k2 k3 k4 k5 k6 k7 k8
        obtain ⟨F, hFa, hFb⟩ : ∃ F : Int → Int, F a = ra ∧ F b = rb := ⟨fun z => if z = a then ra else rb, if_pos rfl, if_neg (by have := HNE.out; omega)⟩
        have C : Hid (∀ (X : World), Below w2.heap.size w2 X → ∀ z : Int, (z = a ∨ z = b) → Calls Tryz.prog 23 #[.agg #[.string tt, .slice a1 S.kinds.length b1, .slice a2 S.members.length b2, .slice a3 S.preds.length b3, .slice a4 S.classes.length b4, .slice a5 S.sources.length b5, .slice a6 S.rules.length b6, .slice a7 S.excepts.length b7, .slice a8 S.totals.length b8], .int .i64 z] X fun e w' => e = .returned (.int .i64 (F z)) ∧ Below X.heap.size X w') := hide (by
          intro X hX z hz
          rcases hz with rfl | rfl
          · rw [hFa]; exact CR1.out X (HB2.out.trans (hX.mono HB2.out.size))
          · rw [hFb]; exact CR2.out X (HB2.out.trans (hX.mono HB2.out.size)))
        have HT : Sx9 w2 w.heap.size (.string tt) (.slice a1 S.kinds.length b1) (.slice a2 S.members.length b2) (.slice a3 S.preds.length b3) (.slice a4 S.classes.length b4) (.slice a5 S.sources.length b5) (.slice a6 S.rules.length b6) (.slice a7 S.excepts.length b7) (.slice a8 S.totals.length b8) w2 := ⟨k0, k1, k2, k3, k4, k5, k6, k7, k8, loc_lt HX2.out, Below.refl _ _⟩
        clear CD1 CD2 CR1 CR2
        go_upto_region 5 with fail
        go_region_held3 (fun X : World => Sx9 w2 w.heap.size (.string tt) (.slice a1 S.kinds.length b1) (.slice a2 S.members.length b2) (.slice a3 S.preds.length b3) (.slice a4 S.classes.length b4) (.slice a5 S.sources.length b5) (.slice a6 S.rules.length b6) (.slice a7 S.excepts.length b7) (.slice a8 S.totals.length b8) X) (first | exact Sx9.drew ‹_› | assumption | exact Sx9.below ‹_› ‹_›) (first | (go_at_call 23; refine (C.out _ (Sx9.b ‹_›) _ (by first | exact .inl rfl | exact .inr rfl)).mono ?_; rintro e w' ⟨rfl, hb⟩))
        rename_i hS4
        have HB4 : Hid (Below w.heap.size w w') := hide (HB2.out.trans ((Sx9.b hS4).mono HB2.out.size))
        by_cases hr : ra = rb
        · subst hr
          have HR : Hid (refP false false a b ra ra x.day y.day = decide (y.day < x.day)) := hide (by simp [refP, HNE.out])
          obtain ⟨g1, o1, _, _, _, _, rfl, hg1, _, _, p2, _⟩ := at_R (HS.out w' HB4.out).rules HX.out
          obtain ⟨g2, o2, _, _, _, _, e2, hg2, _, _, q2, _⟩ := at_R (HS.out w' HB4.out).rules HY.out
          simp only [Option.some.injEq, Addr.mk.injEq, and_true] at e2
          obtain ⟨rfl, rfl⟩ := e2
          have k6 : w'.cell? ⟨w.heap.size, 6, none⟩ = some (.slice (some ⟨g1, o1, none⟩) S.rules.length b6) := hS4.2.2.2.2.2.2.1
          clear C HS hS4 HT k0 k1 k2 k3 k4 k5 k7 k8 hne hFa hFb
          go_wp2_with fail
          go_quiet (fail)
          go_wp2_with fail
          go_ret
          exact ⟨by rw [HR.out]; rfl, HB4.out.trans ((below_drewN w' nq).mono HB4.out.size)⟩
        · have HR : Hid (refP false false a b ra rb x.day y.day = decide (rb < ra)) := hide (by simp [refP, HNE.out, hr])
          have hrb : (ra == rb) = false := by simpa using hr
          clear hr
          have HT4 := hS4
          obtain ⟨k0', k1', k2', k3', k4', k5', k6', k7', k8', _, _⟩ := hS4
          clear HT k0 k1 k2 k3 k4 k5 k6 k7 k8
          go_wp2_with fail
          go_region_held3 (fun X : World => Sx9 w2 w.heap.size (.string tt) (.slice a1 S.kinds.length b1) (.slice a2 S.members.length b2) (.slice a3 S.preds.length b3) (.slice a4 S.classes.length b4) (.slice a5 S.sources.length b5) (.slice a6 S.rules.length b6) (.slice a7 S.excepts.length b7) (.slice a8 S.totals.length b8) X) (first | exact Sx9.drew ‹_› | assumption | exact Sx9.below ‹_› ‹_›) (first | (go_at_call 23; refine (C.out _ (Sx9.b ‹_›) _ (by first | exact .inl rfl | exact .inr rfl)).mono ?_; rintro e w' ⟨rfl, hb⟩))
          rename_i hS5
          go_wp2_with fail
          go_ret
          exact ⟨by rw [HR.out]; rfl, HB2.out.trans ((Sx9.b hS5).mono HB2.out.size)⟩
end
end Go.Proofs.YtbdlgglbcaoakaaGreat
/- A map of names to numbers, however many: what it holds is told by a list of pairs, the first of a name. -/
namespace Go.Proofs.YtbdlgglbcaoakaaGreat
open Go.RowKit Go.Shelf Go.Maps Go.WideMaps

/-- The number of a name: that of the first pair that has it. -/
def asc : List (Bytes × Int) → Bytes → Option Int
  | [], _ => none
  | x :: r, s => if x.1 = s then some x.2 else asc r s
theorem asc_app (L M : List (Bytes × Int)) (s : Bytes) : asc (L ++ M) s = (asc L s).or (asc M s) := by
  induction L with
  | nil => rfl
  | cons x r ih =>
    simp only [List.cons_append, asc]
    split
    · rfl
    · exact ih
theorem asc_same {L : List (Bytes × Int)} {s : Bytes} {n : Int} (h : (asc L s).isSome = true) (t : Bytes) : asc (L ++ [(s, n)]) t = asc L t := by
  rw [asc_app]
  by_cases e : t = s
  · subst e
    obtain ⟨v, hv⟩ := Option.isSome_iff_exists.1 h
    rw [hv]; rfl
  · have : asc [(s, n)] t = none := by simp only [asc]; rw [if_neg (fun h => e h.symm)]
    rw [this, Option.or_none]
theorem asc_new {L : List (Bytes × Int)} {s : Bytes} {n : Int} (h : asc L s = none) (t : Bytes) : asc (L ++ [(s, n)]) t = if t = s then some n else asc L t := by
  rw [asc_app]
  by_cases e : t = s
  · subst e
    rw [h, if_pos rfl]
    simp [asc]
  · have : asc [(s, n)] t = none := by simp only [asc]; rw [if_neg (fun h => e h.symm)]
    rw [this, Option.or_none, if_neg e]

def PMap (w : World) (b : Nat) (L : List (Bytes × Int)) : Prop := ∃ es clock, w.heap[b]? = some (.map es clock) ∧
  (∀ x ∈ es.toList, ∃ (s : Bytes) (v : Int), x.key = .string ⟨s.toArray⟩ ∧ s.length ≤ maxLen ∧ x.val = .int .i64 v ∧ asc L s = some v) ∧ ∀ s v, asc L s = some v → ∃ x ∈ es.toList, x.key = .string ⟨s.toArray⟩
theorem str_inj {s t : Bytes} (h : (Value.string ⟨s.toArray⟩) = .string ⟨t.toArray⟩) : s = t := by
  injection h with h
  injection h with h
  exact congrArg Array.toList h
section
variable {w w' : World} {b : Nat} {L : List (Bytes × Int)}
theorem PMap.made (w : World) : PMap (w.alloc (.map #[] 0)) w.heap.size [] := ⟨#[], 0, heap_alloc_new w _, by simp, fun s v h => by simp [asc] at h⟩
theorem PMap.keep (h : PMap w b L) (hb : w'.heap[b]? = w.heap[b]?) : PMap w' b L := by
  obtain ⟨es, c, h1, h2⟩ := h
  exact ⟨es, c, hb.trans h1, h2⟩
theorem PMap.lt (h : PMap w b L) : b < w.heap.size := by obtain ⟨es, c, h1, _⟩ := h; exact loc_lt h1
theorem PMap.look (h : PMap w b L) (s : Bytes) (hs : s.length ≤ maxLen) : (Instr.lookup 67 (.map (some b)) (.string ⟨s.toArray⟩) true).run Tryz.prog w = .ok (.tuple #[.int .i64 ((asc L s).getD 0), .bool (asc L s).isSome]) w := by
  obtain ⟨es, clock, hb, hk, ha⟩ := h
  have hkey := key_mk hs
  rcases law.find w hkey es.toList (fun e he => by obtain ⟨t, v, h1, h2, _⟩ := hk e he; rw [h1]; exact ⟨_, key_mk h2⟩) with ⟨h1, h2⟩ | ⟨j, e0, h1, h2, h3⟩
  · have hn : asc L s = none := by
      cases hc : asc L s with
      | none => rfl
      | some v => obtain ⟨x, hx, hxk⟩ := ha s v hc; exact absurd hxk (h2 x hx)
    rw [hn]
    simp [Instr.lookup, run_underlying Tryz.underlying67, MapKept.run_getObj_map hb, law.check w _ hkey, h1, Tryz.zeroValue3, Result.andThen]
  · obtain ⟨t, v, k1, _, k3, k4⟩ := hk e0 (List.mem_of_getElem? h2)
    have e : t = s := str_inj (k1.symm.trans h3)
    subst e
    rw [k4]
    simp [Instr.lookup, run_underlying Tryz.underlying67, MapKept.run_getObj_map hb, law.check w _ hkey, h1, k3, Result.andThen]
theorem PMap.put (h : PMap w b L) (s : Bytes) (hs : s.length ≤ maxLen) (n : Int) (hn : asc L s = none) : ∃ w', (Instr.mapUpdate 67 (.map (some b)) (.string ⟨s.toArray⟩) (.int .i64 n)).run Tryz.prog w = .ok () w' ∧ PMap w' b (L ++ [(s, n)]) ∧ w.grownBy w' (some b) := by
  obtain ⟨es, clock, hb, hk, ha⟩ := h
  have hkey := key_mk hs
  rcases law.find w hkey es.toList (fun e he => by obtain ⟨t, v, h1, h2, _⟩ := hk e he; rw [h1]; exact ⟨_, key_mk h2⟩) with ⟨h1, h2⟩ | ⟨j, e0, h1, h2, h3⟩
  · refine ⟨Go.ChangeMaps.setBlock w b (.map (es.push ⟨.string ⟨s.toArray⟩, .int .i64 n, clock⟩) (clock + 1)), ?_, ⟨_, _, Go.ChangeMaps.heap_setBlock_same hb _, ?_, ?_⟩, ⟨rfl, rfl, rfl, by simp [Go.ChangeMaps.setBlock], fun i _ hi => Go.ChangeMaps.heap_setBlock_other hb _ (fun e => hi (by rw [e]))⟩⟩
    · simp [Instr.mapUpdate, run_underlying Tryz.underlying67, MapKept.run_getObj_map hb, law.check w false hkey, h1, MapKept.run_setObj_map _ hb, Result.andThen, Go.ChangeMaps.setBlock]
    · intro x hx
      simp only [Array.toList_push, List.mem_append, List.mem_singleton] at hx
      rcases hx with hx | rfl
      · obtain ⟨t, v, k1, k2, k3, k4⟩ := hk x hx
        refine ⟨t, v, k1, k2, k3, ?_⟩
        rw [asc_new hn, if_neg (fun e => by subst e; rw [hn] at k4; cases k4)]
        exact k4
      · exact ⟨s, n, rfl, hs, rfl, by rw [asc_new hn, if_pos rfl]⟩
    · intro t v hv
      rw [asc_new hn] at hv
      by_cases e : t = s
      · subst e
        exact ⟨⟨.string ⟨t.toArray⟩, .int .i64 n, clock⟩, by simp, rfl⟩
      · rw [if_neg e] at hv
        obtain ⟨x, hx, hxk⟩ := ha t v hv
        exact ⟨x, by simp [Array.mem_toList_iff.1 hx], hxk⟩
  · obtain ⟨t, v, k1, _, k3, k4⟩ := hk e0 (List.mem_of_getElem? h2)
    have e : t = s := str_inj (k1.symm.trans h3)
    subst e
    rw [hn] at k4
    cases k4
theorem PMap.more (h : PMap w b L) (s : Bytes) (n : Int) (hn : (asc L s).isSome = true) : PMap w b (L ++ [(s, n)]) := by
  obtain ⟨es, clock, hb, hk, ha⟩ := h
  refine ⟨es, clock, hb, fun x hx => ?_, fun t v hv => ?_⟩
  · obtain ⟨t, v, k1, k2, k3, k4⟩ := hk x hx
    exact ⟨t, v, k1, k2, k3, by rw [asc_same hn]; exact k4⟩
  · rw [asc_same hn] at hv
    exact ha t v hv

set_option maxRecDepth 100000 in
set_option maxHeartbeats 1600000 in
theorem putP_any (hm : PMap w b L) (s : Bytes) (hs : s.length ≤ maxLen) (n : Int) :
    Calls Tryz.prog 92 #[.map (some b), str s, .int .i64 n] w fun e w' => (∃ x, e = .returned (.bool x)) ∧ PMap w' b (L ++ [(s, n)]) ∧ Fr (fun k => k = b) w w' := by
  have HL := hm.look s hs
  unfold str
  cases hc : asc L s with
  | some v =>
    have HM := hide (hm.more s n (by rw [hc]; rfl))
    rw [hc] at HL
    simp only [Option.getD_some, Option.isSome_some] at HL
    clear hm hc
    go_enter Tryz.func92, Tryz.ntmps92
    go_wp2_with fail
    go_ret
    exact ⟨⟨_, rfl⟩, HM.out, .refl _ _⟩
  | none =>
    obtain ⟨w1, HU, hm1, hg1⟩ := hm.put s hs n hc
    rw [hc] at HL
    simp only [Option.getD_none, Option.isSome_none] at HL
    have HM := hide hm1
    have HG := hide hg1
    clear hm hc hm1 hg1
    go_enter Tryz.func92, Tryz.ntmps92
    go_wp2_with fail
    go_ret
    exact ⟨⟨_, rfl⟩, HM.out, .of_grown HG.out fun k e => by cases e; rfl⟩
end

/-- The pairs of classes: of each name its class's number. -/
def prs : Nat → List (List Bytes) → List (Bytes × Int)
  | _, [] => []
  | k, l :: r => l.map (fun s => (s, (k : Int))) ++ prs (k + 1) r
/-- The first class that has a name. -/
def clsF : Nat → List (List Bytes) → Bytes → Int
  | _, [], _ => -1
  | k, l :: r, s => if s ∈ l then k else clsF (k + 1) r s
theorem asc_map (l : List Bytes) (k : Int) (s : Bytes) : asc (l.map fun s => (s, k)) s = if s ∈ l then some k else none := by
  induction l with
  | nil => rfl
  | cons x r ih =>
    simp only [List.map_cons, asc, List.mem_cons]
    by_cases e : x = s
    · subst e; simp
    · rw [if_neg e, ih]
      have : (s = x ∨ s ∈ r) ↔ s ∈ r := ⟨fun h => h.resolve_left fun h => e h.symm, .inr⟩
      simp only [this]
theorem asc_prs (cs : List (List Bytes)) (k : Nat) (s : Bytes) : (match asc (prs k cs) s with | some v => v | none => -1) = clsF k cs s := by
  induction cs generalizing k with
  | nil => rfl
  | cons l r ih =>
    simp only [prs, clsF, asc_app, asc_map]
    by_cases h : s ∈ l
    · rw [if_pos h, if_pos h]; rfl
    · rw [if_neg h, if_neg h, Option.none_or]; exact ih (k + 1)
theorem prs_app (cs ds : List (List Bytes)) (k : Nat) : prs k (cs ++ ds) = prs k cs ++ prs (k + cs.length) ds := by
  induction cs generalizing k with
  | nil => rfl
  | cons l r ih =>
    simp only [List.cons_append, prs, ih, List.length_cons, List.append_assoc]
    congr 3
    omega
theorem prs_snoc {cs : List (List Bytes)} {i : Nat} {l : List Bytes} (h : cs[i]? = some l) : prs 0 (cs.take (i + 1)) = prs 0 (cs.take i) ++ l.map (fun s => (s, (i : Int))) := by
  have hi : i < cs.length := by
    apply Classical.byContradiction
    intro hn
    rw [List.getElem?_eq_none (by omega)] at h
    cases h
  rw [take_snoc h, prs_app]
  have e : (0 + (cs.take i).length) = i := by simp; omega
  rw [e]
  simp only [prs, List.append_nil]
theorem clsF_step {cs : List (List Bytes)} {i : Nat} {l : List Bytes} (h : cs[i]? = some l) (s : Bytes) : clsF i (cs.drop i) s = if s ∈ l then (i : Int) else clsF (i + 1) (cs.drop (i + 1)) s := by
  have hi : i < cs.length := by
    apply Classical.byContradiction
    intro hn
    rw [List.getElem?_eq_none (by omega)] at h
    cases h
  rw [List.drop_eq_getElem_cons hi]
  have : cs[i] = l := by
    rw [List.getElem?_eq_getElem hi] at h
    exact Option.some.inj h
  rw [this]
  rfl
end Go.Proofs.YtbdlgglbcaoakaaGreat
/- Rows that are gathered beside a statute; what Sorts, Of, Class answer: plain words. -/
namespace Go.Proofs.YtbdlgglbcaoakaaGreat
open Go.RowKit Go.Shelf Go.Maps Go.WideMaps

/-- A row that is gathered beside a statute in its box. -/
structure GI (T : Nat) (st : St9) (w : World) (n : Nat) (xs : List Value) (mv : Value) (wr : World) : Prop where
  low : Below w.heap.size w wr
  box : wr.heap[w.heap.size]? = some (.cells #[st.title, st.kinds, st.members, st.preds, st.classes, st.sources, st.rules, st.excepts, st.totals] 31 (0, 0))
  row : wr.ownsRow (w.heap.size + 1) T 1 mv n xs
theorem GI.grow {T : Nat} {st : St9} {w : World} {n : Nat} {mv : Value} {wd w4 : World} {xs ys : List Value} {ob : Obj} {g4 cap4 : Nat} (h : GI T st w n xs mv wd) (hown : w4.ownsRow (w.heap.size + 1) T 1 (.slice (some ⟨g4, 0, none⟩) (n + 1) cap4) (n + 1) ys)
    (hg : (mv.ownBlock = some g4 ∧ (wd.alloc ob).grownBy w4 (some g4)) ∨ (g4 = wd.heap.size + 1 ∧ (wd.alloc ob).grownBy w4 none)) : GI T st w (n + 1) ys (.slice (some ⟨g4, 0, none⟩) (n + 1) cap4) w4 := by
  have hfr := grown_fr (Z := fun k => w.heap.size + 1 ≤ k) rfl hg fun g e => (h.row.lt g e).1
  have hl := loc_lt h.box
  exact ⟨h.low.trans (hfr.below fun k hk => ⟨by omega, by show ¬ w.heap.size + 1 ≤ k; omega⟩), (hfr.block _ hl (by show ¬ w.heap.size + 1 ≤ w.heap.size; omega)).trans h.box, hown⟩
theorem GI.below {T : Nat} {st : St9} {w : World} {n : Nat} {xs : List Value} {mv : Value} {wr w' : World} (h : GI T st w n xs mv wr) (hb : Below wr.heap.size wr w') : GI T st w n xs mv w' :=
  ⟨h.low.trans (hb.mono h.low.size), (hb.block _ (loc_lt h.box)).trans h.box, owns_keep h.row fun g hg => hb.block g (owns_lt h.row hg)⟩
theorem GI.start {T : Nat} {st : St9} (w : World) : GI T st w 0 [] (.slice none 0 0) (w.alloc (.cells #[st.title, st.kinds, st.members, st.preds, st.classes, st.sources, st.rules, st.excepts, st.totals] 31)) :=
  ⟨(Below.refl _ w).alloc (Nat.le_refl _) _, heap_alloc_new w _, rfl, .inl ⟨rfl, rfl⟩⟩
theorem GI.cells {T : Nat} {st : St9} {w : World} {n : Nat} {xs : List Value} {mv : Value} {wr : World} (h : GI T st w n xs mv wr) : wr.cell? ⟨w.heap.size, 0, none⟩ = some st.title ∧ wr.cell? ⟨w.heap.size, 1, none⟩ = some st.kinds ∧ wr.cell? ⟨w.heap.size, 2, none⟩ = some st.members ∧ wr.cell? ⟨w.heap.size, 3, none⟩ = some st.preds ∧ wr.cell? ⟨w.heap.size, 4, none⟩ = some st.classes ∧ wr.cell? ⟨w.heap.size, 5, none⟩ = some st.sources ∧ wr.cell? ⟨w.heap.size, 6, none⟩ = some st.rules ∧ wr.cell? ⟨w.heap.size, 7, none⟩ = some st.excepts ∧ wr.cell? ⟨w.heap.size, 8, none⟩ = some st.totals :=
  ⟨cell_of_row wr _ 0 _ _ _ h.box, cell_of_row wr _ 1 _ _ _ h.box, cell_of_row wr _ 2 _ _ _ h.box, cell_of_row wr _ 3 _ _ _ h.box, cell_of_row wr _ 4 _ _ _ h.box, cell_of_row wr _ 5 _ _ _ h.box, cell_of_row wr _ 6 _ _ _ h.box, cell_of_row wr _ 7 _ _ _ h.box, cell_of_row wr _ 8 _ _ _ h.box⟩
theorem owns_down {w : World} {b b' e k n : Nat} {u : Value} {xs : List Value} (h : w.ownsRow b e k u n xs) (hb : b' ≤ b) : w.ownsRow b' e k u n xs := by
  obtain ⟨h1, h2⟩ := h
  refine ⟨h1, ?_⟩
  rcases h2 with h2 | ⟨g, cap, cur, e, hg, h4⟩
  · exact .inl h2
  · exact .inr ⟨g, cap, cur, e, Nat.le_trans hb hg, h4⟩
theorem strs_snoc {α : Type} {f : α → Bytes} {l : List α} {i : Nat} {x : α} (hx : l[i]? = some x) : strs ((l.take (i + 1)).map f) = strs ((l.take i).map f) ++ [.string ⟨(f x).toArray⟩] := by
  rw [take_snoc hx]
  unfold strs str
  simp
theorem infoO : (Tryz.prog.info? 116).map (fun i => (i.zero, i.size, i.bytes)) = some (some (.int .i64 0), 1, 8) := by kernel_rfl
theorem ints_snoc {α : Type} {f : α → Int} {l : List α} {i : Nat} {x : α} (hx : l[i]? = some x) : ints ((l.take (i + 1)).map f) = ints ((l.take i).map f) ++ [.int .i64 (f x)] := by
  rw [take_snoc hx]
  unfold ints
  simp
/-- Is a member of that kind? -/
def ofP (kinds : List Bytes) (k : Int) (m : Bytes × Bytes) : Bool := decide (m.2 ∈ kinds) && decide ((posB kinds m.2 : Int) = k)
def ofL (kinds : List Bytes) (k : Int) (l : List (Bytes × Bytes)) : List Int := (l.zipIdx.filter fun x => ofP kinds k x.1).map fun x => (x.2 : Int)
theorem ofL_step {kinds : List Bytes} {k : Int} {l : List (Bytes × Bytes)} {i : Nat} {x : Bytes × Bytes} (hx : l[i]? = some x) : ofL kinds k (l.take (i + 1)) = ofL kinds k (l.take i) ++ (if ofP kinds k x then [(i : Int)] else []) := by
  have hi : i < l.length := by
    apply Classical.byContradiction
    intro hn
    rw [List.getElem?_eq_none (by omega)] at hx
    cases hx
  have hl : (l.take i).length = i := by simp; omega
  unfold ofL
  rw [take_snoc hx, List.zipIdx_append, List.filter_append, List.map_append, hl]
  congr 1
  by_cases h : ofP kinds k x = true <;> simp [h, List.zipIdx]
theorem ofL_le {kinds : List Bytes} {k : Int} {l : List (Bytes × Bytes)} (i : Nat) : (ofL kinds k (l.take i)).length ≤ i := by
  unfold ofL
  rw [List.length_map]
  refine Nat.le_trans (List.length_filter_le _ _) ?_
  simp
  omega
/-- Of each predicate its class. -/
def clsL (cs : List (List Bytes)) (l : List PredM) : List Int := l.map fun p => clsF 0 cs p.name
end Go.Proofs.YtbdlgglbcaoakaaGreat
