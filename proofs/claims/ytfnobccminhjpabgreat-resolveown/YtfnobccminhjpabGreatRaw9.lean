/- A map of names to numbers, however many: what it holds is told by a list of pairs, the first of a name. -/
import Derived.Test.YtfnobccminhjpabGreatNum8
import Derived.Test.YtfnobccminhjpabGreatFirst8
namespace Go.Proofs.YtfnobccminhjpabGreat
open Go.RowKit Go.Shelf Go.Maps Go.WideMaps

/-- The number of a name: that of the first pair that has it. -/
def asc : List (Bytes × Int) → Bytes → Option Int
  | [], _ => none
  | x :: r, s => if x.1 = s then some x.2 else asc r s
theorem asc_app (L M : List (Bytes × Int)) (s : Bytes) : asc (L ++ M) s = (asc L s).or (asc M s) := by
  induction L with
  | nil => rfl
  | cons x r ih =>
    simp only [List.cons_append, asc]
    split
    · rfl
    · exact ih
theorem asc_same {L : List (Bytes × Int)} {s : Bytes} {n : Int} (h : (asc L s).isSome = true) (t : Bytes) : asc (L ++ [(s, n)]) t = asc L t := by
  rw [asc_app]
  by_cases e : t = s
  · subst e
    obtain ⟨v, hv⟩ := Option.isSome_iff_exists.1 h
    rw [hv]; rfl
  · have : asc [(s, n)] t = none := by simp only [asc]; rw [if_neg (fun h => e h.symm)]
    rw [this, Option.or_none]
theorem asc_new {L : List (Bytes × Int)} {s : Bytes} {n : Int} (h : asc L s = none) (t : Bytes) : asc (L ++ [(s, n)]) t = if t = s then some n else asc L t := by
  rw [asc_app]
  by_cases e : t = s
  · subst e
    rw [h, if_pos rfl]
    simp [asc]
  · have : asc [(s, n)] t = none := by simp only [asc]; rw [if_neg (fun h => e h.symm)]
    rw [this, Option.or_none, if_neg e]

def PMap (w : World) (b : Nat) (L : List (Bytes × Int)) : Prop := ∃ es clock, w.heap[b]? = some (.map es clock) ∧
  (∀ x ∈ es.toList, ∃ (s : Bytes) (v : Int), x.key = .string ⟨s.toArray⟩ ∧ s.length ≤ maxLen ∧ x.val = .int .i64 v ∧ asc L s = some v) ∧ ∀ s v, asc L s = some v → ∃ x ∈ es.toList, x.key = .string ⟨s.toArray⟩
theorem str_inj {s t : Bytes} (h : (Value.string ⟨s.toArray⟩) = .string ⟨t.toArray⟩) : s = t := by
  injection h with h
  injection h with h
  exact congrArg Array.toList h
section
variable {w w' : World} {b : Nat} {L : List (Bytes × Int)}
theorem PMap.made (w : World) : PMap (w.alloc (.map #[] 0)) w.heap.size [] := ⟨#[], 0, heap_alloc_new w _, by simp, fun s v h => by simp [asc] at h⟩
theorem PMap.keep (h : PMap w b L) (hb : w'.heap[b]? = w.heap[b]?) : PMap w' b L := by
  obtain ⟨es, c, h1, h2⟩ := h
  exact ⟨es, c, hb.trans h1, h2⟩
theorem PMap.lt (h : PMap w b L) : b < w.heap.size := by obtain ⟨es, c, h1, _⟩ := h; exact loc_lt h1
theorem PMap.look (h : PMap w b L) (s : Bytes) (hs : s.length ≤ maxLen) : (Instr.lookup 103 (.map (some b)) (.string ⟨s.toArray⟩) true).run Tryz.prog w = .ok (.tuple #[.int .i64 ((asc L s).getD 0), .bool (asc L s).isSome]) w := by
  obtain ⟨es, clock, hb, hk, ha⟩ := h
  have hkey := key_mk hs
  rcases law.find w hkey es.toList (fun e he => by obtain ⟨t, v, h1, h2, _⟩ := hk e he; rw [h1]; exact ⟨_, key_mk h2⟩) with ⟨h1, h2⟩ | ⟨j, e0, h1, h2, h3⟩
  · have hn : asc L s = none := by
      cases hc : asc L s with
      | none => rfl
      | some v => obtain ⟨x, hx, hxk⟩ := ha s v hc; exact absurd hxk (h2 x hx)
    rw [hn]
    simp [Instr.lookup, run_underlying Tryz.underlying103, MapKept.run_getObj_map hb, law.check w _ hkey, h1, Tryz.zeroValue3, Result.andThen]
  · obtain ⟨t, v, k1, _, k3, k4⟩ := hk e0 (List.mem_of_getElem? h2)
    have e : t = s := str_inj (k1.symm.trans h3)
    subst e
    rw [k4]
    simp [Instr.lookup, run_underlying Tryz.underlying103, MapKept.run_getObj_map hb, law.check w _ hkey, h1, k3, Result.andThen]
theorem PMap.put (h : PMap w b L) (s : Bytes) (hs : s.length ≤ maxLen) (n : Int) (hn : asc L s = none) : ∃ w', (Instr.mapUpdate 103 (.map (some b)) (.string ⟨s.toArray⟩) (.int .i64 n)).run Tryz.prog w = .ok () w' ∧ PMap w' b (L ++ [(s, n)]) ∧ w.grownBy w' (some b) := by
  obtain ⟨es, clock, hb, hk, ha⟩ := h
  have hkey := key_mk hs
  rcases law.find w hkey es.toList (fun e he => by obtain ⟨t, v, h1, h2, _⟩ := hk e he; rw [h1]; exact ⟨_, key_mk h2⟩) with ⟨h1, h2⟩ | ⟨j, e0, h1, h2, h3⟩
  · refine ⟨Go.ChangeMaps.setBlock w b (.map (es.push ⟨.string ⟨s.toArray⟩, .int .i64 n, clock⟩) (clock + 1)), ?_, ⟨_, _, Go.ChangeMaps.heap_setBlock_same hb _, ?_, ?_⟩, ⟨rfl, rfl, rfl, by simp [Go.ChangeMaps.setBlock], fun i _ hi => Go.ChangeMaps.heap_setBlock_other hb _ (fun e => hi (by rw [e]))⟩⟩
    · simp [Instr.mapUpdate, run_underlying Tryz.underlying103, MapKept.run_getObj_map hb, law.check w false hkey, h1, MapKept.run_setObj_map _ hb, Result.andThen, Go.ChangeMaps.setBlock]
    · intro x hx
      simp only [Array.toList_push, List.mem_append, List.mem_singleton] at hx
      rcases hx with hx | rfl
      · obtain ⟨t, v, k1, k2, k3, k4⟩ := hk x hx
        refine ⟨t, v, k1, k2, k3, ?_⟩
        rw [asc_new hn, if_neg (fun e => by subst e; rw [hn] at k4; cases k4)]
        exact k4
      · exact ⟨s, n, rfl, hs, rfl, by rw [asc_new hn, if_pos rfl]⟩
    · intro t v hv
      rw [asc_new hn] at hv
      by_cases e : t = s
      · subst e
        exact ⟨⟨.string ⟨t.toArray⟩, .int .i64 n, clock⟩, by simp, rfl⟩
      · rw [if_neg e] at hv
        obtain ⟨x, hx, hxk⟩ := ha t v hv
        exact ⟨x, by simp [Array.mem_toList_iff.1 hx], hxk⟩
  · obtain ⟨t, v, k1, _, k3, k4⟩ := hk e0 (List.mem_of_getElem? h2)
    have e : t = s := str_inj (k1.symm.trans h3)
    subst e
    rw [hn] at k4
    cases k4
theorem PMap.more (h : PMap w b L) (s : Bytes) (n : Int) (hn : (asc L s).isSome = true) : PMap w b (L ++ [(s, n)]) := by
  obtain ⟨es, clock, hb, hk, ha⟩ := h
  refine ⟨es, clock, hb, fun x hx => ?_, fun t v hv => ?_⟩
  · obtain ⟨t, v, k1, k2, k3, k4⟩ := hk x hx
    exact ⟨t, v, k1, k2, k3, by rw [asc_same hn]; exact k4⟩
  · rw [asc_same hn] at hv
    exact ha t v hv

set_option maxRecDepth 100000 in
set_option maxHeartbeats 1600000 in
theorem putP_any (hm : PMap w b L) (s : Bytes) (hs : s.length ≤ maxLen) (n : Int) :
    Calls Tryz.prog 26 #[.map (some b), str s, .int .i64 n] w fun e w' => (∃ x, e = .returned (.bool x)) ∧ PMap w' b (L ++ [(s, n)]) ∧ Fr (fun k => k = b) w w' := by
  have HL := hm.look s hs
  unfold str
  cases hc : asc L s with
  | some v =>
    have HM := hide (hm.more s n (by rw [hc]; rfl))
    rw [hc] at HL
    simp only [Option.getD_some, Option.isSome_some] at HL
    clear hm hc
    go_enter Tryz.func26, Tryz.ntmps26
    go_wp2_with fail
    go_ret
    exact ⟨⟨_, rfl⟩, HM.out, .refl _ _⟩
  | none =>
    obtain ⟨w1, HU, hm1, hg1⟩ := hm.put s hs n hc
    rw [hc] at HL
    simp only [Option.getD_none, Option.isSome_none] at HL
    have HM := hide hm1
    have HG := hide hg1
    clear hm hc hm1 hg1
    go_enter Tryz.func26, Tryz.ntmps26
    go_wp2_with fail
    go_ret
    exact ⟨⟨_, rfl⟩, HM.out, .of_grown HG.out fun k e => by cases e; rfl⟩
end

/-- The pairs of classes: of each name its class's number. -/
def prs : Nat → List (List Bytes) → List (Bytes × Int)
  | _, [] => []
  | k, l :: r => l.map (fun s => (s, (k : Int))) ++ prs (k + 1) r
/-- The first class that has a name. -/
def clsF : Nat → List (List Bytes) → Bytes → Int
  | _, [], _ => -1
  | k, l :: r, s => if s ∈ l then k else clsF (k + 1) r s
theorem asc_map (l : List Bytes) (k : Int) (s : Bytes) : asc (l.map fun s => (s, k)) s = if s ∈ l then some k else none := by
  induction l with
  | nil => rfl
  | cons x r ih =>
    simp only [List.map_cons, asc, List.mem_cons]
    by_cases e : x = s
    · subst e; simp
    · rw [if_neg e, ih]
      have : (s = x ∨ s ∈ r) ↔ s ∈ r := ⟨fun h => h.resolve_left fun h => e h.symm, .inr⟩
      simp only [this]
theorem asc_prs (cs : List (List Bytes)) (k : Nat) (s : Bytes) : (match asc (prs k cs) s with | some v => v | none => -1) = clsF k cs s := by
  induction cs generalizing k with
  | nil => rfl
  | cons l r ih =>
    simp only [prs, clsF, asc_app, asc_map]
    by_cases h : s ∈ l
    · rw [if_pos h, if_pos h]; rfl
    · rw [if_neg h, if_neg h, Option.none_or]; exact ih (k + 1)
theorem prs_app (cs ds : List (List Bytes)) (k : Nat) : prs k (cs ++ ds) = prs k cs ++ prs (k + cs.length) ds := by
  induction cs generalizing k with
  | nil => rfl
  | cons l r ih =>
    simp only [List.cons_append, prs, ih, List.length_cons, List.append_assoc]
    congr 3
    omega
theorem prs_snoc {cs : List (List Bytes)} {i : Nat} {l : List Bytes} (h : cs[i]? = some l) : prs 0 (cs.take (i + 1)) = prs 0 (cs.take i) ++ l.map (fun s => (s, (i : Int))) := by
  have hi : i < cs.length := by
    apply Classical.byContradiction
    intro hn
    rw [List.getElem?_eq_none (by omega)] at h
    cases h
  rw [take_snoc h, prs_app]
  have e : (0 + (cs.take i).length) = i := by simp; omega
  rw [e]
  simp only [prs, List.append_nil]
theorem clsF_step {cs : List (List Bytes)} {i : Nat} {l : List Bytes} (h : cs[i]? = some l) (s : Bytes) : clsF i (cs.drop i) s = if s ∈ l then (i : Int) else clsF (i + 1) (cs.drop (i + 1)) s := by
  have hi : i < cs.length := by
    apply Classical.byContradiction
    intro hn
    rw [List.getElem?_eq_none (by omega)] at h
    cases h
  rw [List.drop_eq_getElem_cons hi]
  have : cs[i] = l := by
    rw [List.getElem?_eq_getElem hi] at h
    exact Option.some.inj h
  rw [this]
  rfl
end Go.Proofs.YtfnobccminhjpabGreat
/- Rows that are gathered beside a statute; what Sorts, Of, Class answer: plain words. -/
namespace Go.Proofs.YtfnobccminhjpabGreat
open Go.RowKit Go.Shelf Go.Maps Go.WideMaps

/-- A row that is gathered beside a statute in its box. -/
structure GI (T : Nat) (st : St9) (w : World) (n : Nat) (xs : List Value) (mv : Value) (wr : World) : Prop where
  low : Below w.heap.size w wr
  box : wr.heap[w.heap.size]? = some (.cells #[st.title, st.kinds, st.members, st.preds, st.classes, st.sources, st.rules, st.excepts, st.totals] 31 (0, 0))
  row : wr.ownsRow (w.heap.size + 1) T 1 mv n xs
theorem GI.grow {T : Nat} {st : St9} {w : World} {n : Nat} {mv : Value} {wd w4 : World} {xs ys : List Value} {ob : Obj} {g4 cap4 : Nat} (h : GI T st w n xs mv wd) (hown : w4.ownsRow (w.heap.size + 1) T 1 (.slice (some ⟨g4, 0, none⟩) (n + 1) cap4) (n + 1) ys)
    (hg : (mv.ownBlock = some g4 ∧ (wd.alloc ob).grownBy w4 (some g4)) ∨ (g4 = wd.heap.size + 1 ∧ (wd.alloc ob).grownBy w4 none)) : GI T st w (n + 1) ys (.slice (some ⟨g4, 0, none⟩) (n + 1) cap4) w4 := by
  have hfr := grown_fr (Z := fun k => w.heap.size + 1 ≤ k) rfl hg fun g e => (h.row.lt g e).1
  have hl := loc_lt h.box
  exact ⟨h.low.trans (hfr.below fun k hk => ⟨by omega, by show ¬ w.heap.size + 1 ≤ k; omega⟩), (hfr.block _ hl (by show ¬ w.heap.size + 1 ≤ w.heap.size; omega)).trans h.box, hown⟩
theorem GI.below {T : Nat} {st : St9} {w : World} {n : Nat} {xs : List Value} {mv : Value} {wr w' : World} (h : GI T st w n xs mv wr) (hb : Below wr.heap.size wr w') : GI T st w n xs mv w' :=
  ⟨h.low.trans (hb.mono h.low.size), (hb.block _ (loc_lt h.box)).trans h.box, owns_keep h.row fun g hg => hb.block g (owns_lt h.row hg)⟩
theorem GI.start {T : Nat} {st : St9} (w : World) : GI T st w 0 [] (.slice none 0 0) (w.alloc (.cells #[st.title, st.kinds, st.members, st.preds, st.classes, st.sources, st.rules, st.excepts, st.totals] 31)) :=
  ⟨(Below.refl _ w).alloc (Nat.le_refl _) _, heap_alloc_new w _, rfl, .inl ⟨rfl, rfl⟩⟩
theorem GI.cells {T : Nat} {st : St9} {w : World} {n : Nat} {xs : List Value} {mv : Value} {wr : World} (h : GI T st w n xs mv wr) : wr.cell? ⟨w.heap.size, 0, none⟩ = some st.title ∧ wr.cell? ⟨w.heap.size, 1, none⟩ = some st.kinds ∧ wr.cell? ⟨w.heap.size, 2, none⟩ = some st.members ∧ wr.cell? ⟨w.heap.size, 3, none⟩ = some st.preds ∧ wr.cell? ⟨w.heap.size, 4, none⟩ = some st.classes ∧ wr.cell? ⟨w.heap.size, 5, none⟩ = some st.sources ∧ wr.cell? ⟨w.heap.size, 6, none⟩ = some st.rules ∧ wr.cell? ⟨w.heap.size, 7, none⟩ = some st.excepts ∧ wr.cell? ⟨w.heap.size, 8, none⟩ = some st.totals :=
  ⟨cell_of_row wr _ 0 _ _ _ h.box, cell_of_row wr _ 1 _ _ _ h.box, cell_of_row wr _ 2 _ _ _ h.box, cell_of_row wr _ 3 _ _ _ h.box, cell_of_row wr _ 4 _ _ _ h.box, cell_of_row wr _ 5 _ _ _ h.box, cell_of_row wr _ 6 _ _ _ h.box, cell_of_row wr _ 7 _ _ _ h.box, cell_of_row wr _ 8 _ _ _ h.box⟩
theorem owns_down {w : World} {b b' e k n : Nat} {u : Value} {xs : List Value} (h : w.ownsRow b e k u n xs) (hb : b' ≤ b) : w.ownsRow b' e k u n xs := by
  obtain ⟨h1, h2⟩ := h
  refine ⟨h1, ?_⟩
  rcases h2 with h2 | ⟨g, cap, cur, e, hg, h4⟩
  · exact .inl h2
  · exact .inr ⟨g, cap, cur, e, Nat.le_trans hb hg, h4⟩
theorem strs_snoc {α : Type} {f : α → Bytes} {l : List α} {i : Nat} {x : α} (hx : l[i]? = some x) : strs ((l.take (i + 1)).map f) = strs ((l.take i).map f) ++ [.string ⟨(f x).toArray⟩] := by
  rw [take_snoc hx]
  unfold strs str
  simp
theorem infoO : (Tryz.prog.info? 112).map (fun i => (i.zero, i.size, i.bytes)) = some (some (.int .i64 0), 1, 8) := by kernel_rfl
theorem ints_snoc {α : Type} {f : α → Int} {l : List α} {i : Nat} {x : α} (hx : l[i]? = some x) : ints ((l.take (i + 1)).map f) = ints ((l.take i).map f) ++ [.int .i64 (f x)] := by
  rw [take_snoc hx]
  unfold ints
  simp
/-- Is a member of that kind? -/
def ofP (kinds : List Bytes) (k : Int) (m : Bytes × Bytes) : Bool := decide (m.2 ∈ kinds) && decide ((posB kinds m.2 : Int) = k)
def ofL (kinds : List Bytes) (k : Int) (l : List (Bytes × Bytes)) : List Int := (l.zipIdx.filter fun x => ofP kinds k x.1).map fun x => (x.2 : Int)
theorem ofL_step {kinds : List Bytes} {k : Int} {l : List (Bytes × Bytes)} {i : Nat} {x : Bytes × Bytes} (hx : l[i]? = some x) : ofL kinds k (l.take (i + 1)) = ofL kinds k (l.take i) ++ (if ofP kinds k x then [(i : Int)] else []) := by
  have hi : i < l.length := by
    apply Classical.byContradiction
    intro hn
    rw [List.getElem?_eq_none (by omega)] at hx
    cases hx
  have hl : (l.take i).length = i := by simp; omega
  unfold ofL
  rw [take_snoc hx, List.zipIdx_append, List.filter_append, List.map_append, hl]
  congr 1
  by_cases h : ofP kinds k x = true <;> simp [h, List.zipIdx]
theorem ofL_le {kinds : List Bytes} {k : Int} {l : List (Bytes × Bytes)} (i : Nat) : (ofL kinds k (l.take i)).length ≤ i := by
  unfold ofL
  rw [List.length_map]
  refine Nat.le_trans (List.length_filter_le _ _) ?_
  simp
  omega
/-- Of each predicate its class. -/
def clsL (cs : List (List Bytes)) (l : List PredM) : List Int := l.map fun p => clsF 0 cs p.name
end Go.Proofs.YtfnobccminhjpabGreat
/- The program's Sorts and Class. -/
namespace Go.Proofs.YtfnobccminhjpabGreat
open Go.RowKit Go.Shelf Go.Maps Go.WideMaps

/-- The numbers that have been laid, and what is still 0. -/
def partI (l : List Int) (k : Nat) : List Value := ints (l.take k) ++ List.replicate (l.length - k) (.int .i64 0)
theorem partI_length {l : List Int} {k : Nat} (h : k ≤ l.length) : (partI l k).length = l.length := by unfold partI ints; simp; omega
theorem partI_zero (l : List Int) : (madeCells (Value.int .i64 0).cells (l.length * 1)) = (partI l 0).toArray := by
  apply Array.ext'
  unfold madeCells partI ints
  simp [Value.cells, Array.toList_map]
  apply List.ext_getElem?
  intro i
  simp [List.getElem?_map, List.getElem?_replicate]
  by_cases h : i < l.length
  · simp [h, Nat.mod_one]
  · simp [h]
theorem partI_step {l : List Int} {k : Nat} (h : k < l.length) : (partI l k).toArray.setIfInBounds k (.int .i64 (l.getD k 0)) = (partI l (k + 1)).toArray := by
  apply Array.ext'
  simp only [Array.toList_setIfInBounds]
  apply List.ext_getElem?
  intro i
  have e1 : (partI l k).length = l.length := partI_length (by omega)
  rw [List.getElem?_set]
  have hlk : (ints (l.take k)).length = k := by unfold ints; simp; omega
  have hlk1 : (ints (l.take (k + 1))).length = k + 1 := by unfold ints; simp; omega
  unfold partI
  by_cases h1 : k = i
  · subst h1
    rw [if_pos rfl, if_pos (by rw [e1.symm] at h; exact h), List.getElem?_append_left (by omega)]
    unfold ints
    rw [List.getElem?_map, List.getElem?_take, if_pos (by omega), List.getElem?_eq_getElem h]
    simp [List.getD, h]
  · rw [if_neg h1]
    by_cases h2 : i < k
    · rw [List.getElem?_append_left (by omega), List.getElem?_append_left (by omega)]
      unfold ints
      rw [List.getElem?_map, List.getElem?_map, List.getElem?_take, List.getElem?_take, if_pos h2, if_pos (by omega)]
    · rw [List.getElem?_append_right (by omega), List.getElem?_append_right (by omega), List.getElem?_replicate, List.getElem?_replicate, hlk, hlk1]
      by_cases h3 : i < l.length
      · rw [if_pos (by omega), if_pos (by omega)]
      · rw [if_neg (by omega), if_neg (by omega)]
theorem partI_all (l : List Int) : partI l l.length = ints l := by unfold partI; simp
theorem partI_cell {w : World} {l : List Int} {k R T : Nat} (h : w.heap[R]? = some (.cells (partI l k).toArray T (0, 0))) (hk : k < l.length) : w.cell? ⟨R, k, none⟩ = some (.int .i64 0) := by
  rw [cell_of_row w _ k _ _ _ h]
  unfold partI
  have : (ints (l.take k)).length = k := by unfold ints; simp; omega
  simp [List.getElem?_append_right, this, List.getElem?_replicate]
  omega
theorem partI_owns {w : World} {l : List Int} {R T b : Nat} (h : w.heap[R]? = some (.cells (partI l l.length).toArray T (0, 0))) (hb : b ≤ R) (hl : l.length ≤ maxLen) : w.ownsRow b T 1 (.slice (some ⟨R, 0, none⟩) l.length l.length) l.length (ints l) := by
  refine ⟨by unfold ints; simp, .inr ⟨R, l.length, _, rfl, hb, h, Nat.le_refl _, hl, ?_, ?_⟩⟩
  · rw [partI_all]; unfold ints; simp
  · rw [partI_all, Nat.mul_one, List.toList_toArray]; exact List.take_of_length_le (by unfold ints; simp)
section
variable {S : StatM} {st : St9} {w : World}
set_option maxRecDepth 100000 in
set_option maxHeartbeats 6400000 in
theorem sorts_any (h : SR w.heap.size w S st) (hl : S.preds.length * 24 ≤ 140737488351232) : Calls Tryz.prog 11 #[st.agg] w fun e w' => ∃ v, e = .returned v ∧ w'.ownsRow w.heap.size 112 1 v S.preds.length (ints (S.preds.map (·.sort))) ∧ Below w.heap.size w w' := by
  obtain ⟨tt, ht⟩ := h.title
  obtain ⟨a1, b1, f1, _, _⟩ := h.kinds.form
  obtain ⟨a2, b2, f2, _, _⟩ := h.members.form
  obtain ⟨a3, b3, f3, _, _⟩ := h.preds.form
  obtain ⟨a4, b4, f4, _, _⟩ := h.classes.form
  obtain ⟨a5, b5, f5, _, _⟩ := h.sources.form
  obtain ⟨a6, b6, f6, _, _⟩ := h.rules.form
  obtain ⟨a7, b7, f7, _, _⟩ := h.excepts.form
  obtain ⟨a8, b8, f8, _, _⟩ := h.totals.form
  obtain ⟨s0, s1, s2, s3, s4, s5, s6, s7, s8⟩ := st
  simp only at ht f1 f2 f3 f4 f5 f6 f7 f8
  subst ht f1 f2 f3 f4 f5 f6 f7 f8
  obtain ⟨iM, hiM, zM0, zM1, zM2⟩ := info_parts' infoO
  have HM := hide h.preds
  obtain ⟨W1, hW1⟩ : ∃ W1, W1 = (w.alloc (.cells #[.string tt, .slice a1 S.kinds.length b1, .slice a2 S.members.length b2, .slice a3 S.preds.length b3, .slice a4 S.classes.length b4, .slice a5 S.sources.length b5, .slice a6 S.rules.length b6, .slice a7 S.excepts.length b7, .slice a8 S.totals.length b8] 31)) := ⟨_, rfl⟩
  have hB1 : Below w.heap.size w W1 := by rw [hW1]; exact (Below.refl _ w).alloc (Nat.le_refl _) _
  have hS1 : W1.heap.size = w.heap.size + 1 := by rw [hW1]; simp
  have hbx : W1.heap[w.heap.size]? = some (.cells #[.string tt, .slice a1 S.kinds.length b1, .slice a2 S.members.length b2, .slice a3 S.preds.length b3, .slice a4 S.classes.length b4, .slice a5 S.sources.length b5, .slice a6 S.rules.length b6, .slice a7 S.excepts.length b7, .slice a8 S.totals.length b8] 31 (0, 0)) := by rw [hW1]; exact heap_alloc_new w _
  have hln : (S.preds.map (·.sort)).length = S.preds.length := List.length_map _
  have hmk := run_make (P := Tryz.prog) W1 75 112 iM _ Tryz.underlying75 hiM zM0 .i64 .i64 S.preds.length S.preds.length (by omega) (by omega) (by rw [zM2]; omega) (by omega)
  rw [zM1, Int.toNat_natCast, ← hln, partI_zero] at hmk
  have x3 := cell_of_row W1 w.heap.size 3 _ _ _ hbx
  simp only [List.getElem?_toArray, List.getElem?_cons_zero, List.getElem?_cons_succ] at x3
  have y3 : (W1.alloc (.cells (partI (S.preds.map (·.sort)) 0).toArray 112)).cell? ⟨w.heap.size, 3, none⟩ = some (.slice a3 S.preds.length b3) := by rw [World.cell?_alloc_past _ _ _ (by show w.heap.size < W1.heap.size; omega)]; exact x3
  have HLN := hide hln
  have HB1 := hide hB1
  unfold St9.agg
  simp only
  rw [hln] at hmk
  clear h hbx hiM zM0 zM1 zM2 hln hB1
  go_enter Tryz.func11, Tryz.ntmps11
  go_upto_region 1 with fail
  rw [← hW1]
  clear hW1
  go_wp2_with fail
  go_loopw [13] (fun x wr => ∃ k : Nat, k ≤ S.preds.length ∧ x = .int .i64 k ∧ Hid (wr.heap[w.heap.size + 1]? = some (.cells (partI (S.preds.map (·.sort)) k).toArray 112 (0, 0))) ∧ Hid (Below W1.heap.size W1 wr)) (fun x _ => S.preds.length - (intOf x).toNat)
  case atStart => exact ⟨0, by omega, rfl, hide (by rw [← hS1]; exact heap_alloc_new W1 _), hide ((Below.refl _ _).alloc (Nat.le_refl _) _)⟩
  case round =>
    clear hmk x3 y3
    obtain ⟨k, hk, rfl, HR, HW⟩ := hrel
    by_cases hlt : k < S.preds.length
    · obtain ⟨x, hx⟩ : ∃ x, S.preds[k]? = some x := ⟨S.preds[k], List.getElem?_eq_getElem hlt⟩
      have HWW := hide (HB1.out.trans (HW.out.mono HB1.out.size))
      have hr := RR.keep HM.out (w' := wr) (fun g hg => HWW.out.block g hg) (fun _ _ h => cPred.keep (fun g hg => HWW.out.block g hg) h)
      obtain ⟨g, o, ka, kc, va, vc, rfl, hg, d0, d1, d2, d3, -⟩ := at_P hr hx
      unfold str at d0
      have hgd : (S.preds.map (·.sort)).getD k 0 = x.sort := by rw [List.getD_eq_getElem?_getD, List.getElem?_map, hx]; rfl
      have hp := partI_step (l := S.preds.map (·.sort)) (k := k) (by rw [HLN.out]; exact hlt)
      rw [hgd] at hp
      have HP := hide hp
      have HA := hide ((Below.refl _ wr).alloc (Nat.le_refl _) (.cells #[.string ⟨x.name.toArray⟩, .int .i64 x.sort, .slice ka x.kinds.length kc, .slice va x.values.length vc] 115))
      have hR1 := (HA.out.block _ (loc_lt HR.out)).trans HR.out
      have k1 := partI_cell hR1 (by rw [HLN.out]; exact hlt)
      have k2 := frozen_of_row _ _ k _ _ hR1
      have HR1 := hide hR1
      have HG : g < wr.heap.size := Nat.lt_of_lt_of_le hg HWW.out.size
      clear hr hx hg hp hgd hR1
      go_wp2_with fail
      go_roundw
      case rel =>
        refine ⟨k + 1, by omega, by go_num, hide ?_, hide ((HW.out.trans (HA.out.mono HW.out.size)).setCell (by show W1.heap.size ≤ w.heap.size + 1; omega) _)⟩
        rw [loc_set HR1.out]
        rw [← HP.out]
      case measure => simp [intOf]; omega
    · have hk' : k = S.preds.length := by omega
      subst hk'
      go_wp2_with fail
      go_ret
      refine ⟨_, rfl, ?_, HB1.out.trans (HW.out.mono HB1.out.size)⟩
      have h9 := HR.out
      rw [← HLN.out] at h9
      have := partI_owns (b := w.heap.size) h9 (by omega) (by rw [HLN.out]; unfold maxLen; omega)
      rw [HLN.out] at this
      exact this
/-- The statute's box and the map of classes. -/
structure CI (st : St9) (w : World) (L : List (Bytes × Int)) (wr : World) : Prop where
  low : Below w.heap.size w wr
  box : wr.heap[w.heap.size]? = some (.cells #[st.title, st.kinds, st.members, st.preds, st.classes, st.sources, st.rules, st.excepts, st.totals] 31 (0, 0))
  map : PMap wr (w.heap.size + 1) L
theorem CI.fr {L L' : List (Bytes × Int)} {wr w' : World} (h : CI st w L wr) (hm : PMap w' (w.heap.size + 1) L') (hf : Fr (fun k => k = w.heap.size + 1) wr w') : CI st w L' w' := by
  have hl := h.map.lt
  exact ⟨h.low.trans (hf.below fun k hk => ⟨by omega, by show ¬ k = w.heap.size + 1; omega⟩), (hf.block _ (loc_lt h.box) (by show ¬ w.heap.size = w.heap.size + 1; omega)).trans h.box, hm⟩
theorem map_snoc {l : List Bytes} {j : Nat} {s : Bytes} (n : Int) (h : l[j]? = some s) : (l.take (j + 1)).map (fun s => (s, n)) = (l.take j).map (fun s => (s, n)) ++ [(s, n)] := by rw [take_snoc h, List.map_append]; rfl
set_option maxRecDepth 100000 in
set_option maxHeartbeats 12800000 in
theorem class_any' (h : SR w.heap.size w S st) (hl : S.preds.length * 24 ≤ 140737488351232) : Calls Tryz.prog 9 #[st.agg] w fun e w' => ∃ v, e = .returned v ∧ w'.ownsRow w.heap.size 3 1 v S.preds.length (ints (clsL S.classes S.preds)) ∧ Below w.heap.size w w' := by
  have hcl : S.classes.length ≤ 140737488351232 := by obtain ⟨_, _, _, _, h9⟩ := h.classes.form; exact h9
  obtain ⟨tt, ht⟩ := h.title
  obtain ⟨a1, b1, f1, _, _⟩ := h.kinds.form
  obtain ⟨a2, b2, f2, _, _⟩ := h.members.form
  obtain ⟨a3, b3, f3, _, _⟩ := h.preds.form
  obtain ⟨a4, b4, f4, _, _⟩ := h.classes.form
  obtain ⟨a5, b5, f5, _, _⟩ := h.sources.form
  obtain ⟨a6, b6, f6, _, _⟩ := h.rules.form
  obtain ⟨a7, b7, f7, _, _⟩ := h.excepts.form
  obtain ⟨a8, b8, f8, _, _⟩ := h.totals.form
  obtain ⟨s0, s1, s2, s3, s4, s5, s6, s7, s8⟩ := st
  simp only at ht f1 f2 f3 f4 f5 f6 f7 f8
  subst ht f1 f2 f3 f4 f5 f6 f7 f8
  obtain ⟨iM, hiM, zM0, zM1, zM2⟩ := info_parts' infoI
  have HM := hide h.preds
  have HC := hide h.classes
  have hmm := run_makeMap0
  obtain ⟨W1, hW1⟩ : ∃ W1, W1 = (w.alloc (.cells #[.string tt, .slice a1 S.kinds.length b1, .slice a2 S.members.length b2, .slice a3 S.preds.length b3, .slice a4 S.classes.length b4, .slice a5 S.sources.length b5, .slice a6 S.rules.length b6, .slice a7 S.excepts.length b7, .slice a8 S.totals.length b8] 31)) := ⟨_, rfl⟩
  have hS1 : W1.heap.size = w.heap.size + 1 := by rw [hW1]; simp
  have K0 : Hid (CI ⟨.string tt, .slice a1 S.kinds.length b1, .slice a2 S.members.length b2, .slice a3 S.preds.length b3, .slice a4 S.classes.length b4, .slice a5 S.sources.length b5, .slice a6 S.rules.length b6, .slice a7 S.excepts.length b7, .slice a8 S.totals.length b8⟩ w [] (W1.alloc (.map #[] 0))) := by
    have hB1 : Below w.heap.size w W1 := by rw [hW1]; exact (Below.refl _ w).alloc (Nat.le_refl _) _
    have hbx : W1.heap[w.heap.size]? = some (.cells #[.string tt, .slice a1 S.kinds.length b1, .slice a2 S.members.length b2, .slice a3 S.preds.length b3, .slice a4 S.classes.length b4, .slice a5 S.sources.length b5, .slice a6 S.rules.length b6, .slice a7 S.excepts.length b7, .slice a8 S.totals.length b8] 31 (0, 0)) := by rw [hW1]; exact heap_alloc_new w _
    exact hide ⟨hB1.alloc (by omega) _, (Below.heap_alloc _ _ _ (by omega)).trans hbx, by rw [← hS1]; exact PMap.made W1⟩
  obtain ⟨-, -, -, -, y4, -⟩ : _ ∧ _ ∧ _ ∧ _ ∧ (W1.alloc (.map #[] 0)).cell? ⟨w.heap.size, 4, none⟩ = some (.slice a4 S.classes.length b4) ∧ True := ⟨trivial, trivial, trivial, trivial, cell_of_row _ _ 4 _ _ _ K0.out.box, trivial⟩
  have hln : (clsL S.classes S.preds).length = S.preds.length := List.length_map _
  have HLN := hide hln
  unfold St9.agg
  simp only
  clear h hln
  go_enter Tryz.func9, Tryz.ntmps9
  go_upto_region 1 with fail
  rw [← hW1]
  clear hW1
  go_wp2_with fail
  clear hmm
  go_loopw [17] (fun x wr => ∃ i : Nat, i ≤ S.classes.length ∧ x = .int .i64 i ∧ Hid (CI ⟨.string tt, .slice a1 S.kinds.length b1, .slice a2 S.members.length b2, .slice a3 S.preds.length b3, .slice a4 S.classes.length b4, .slice a5 S.sources.length b5, .slice a6 S.rules.length b6, .slice a7 S.excepts.length b7, .slice a8 S.totals.length b8⟩ w (prs 0 (S.classes.take i)) wr)) (fun x _ => S.classes.length - (intOf x).toNat)
  case atStart => exact ⟨0, by omega, rfl, K0⟩
  case round =>
    clear K0 y4
    obtain ⟨i, hi, rfl, K⟩ := hrel
    by_cases hlt : i < S.classes.length
    · obtain ⟨l, hx⟩ : ∃ l, S.classes[i]? = some l := ⟨S.classes[i], List.getElem?_eq_getElem hlt⟩
      have HPS := hide (prs_snoc hx)
      have hr := RR.keep HC.out (w' := wr) (fun g hg => K.out.low.block g hg) (fun _ _ h => cClass.keep (fun g hg => K.out.low.block g hg) h)
      obtain ⟨g, o, ka, kc, rfl, hg, d0, hls⟩ := at_C hr hx
      obtain ⟨_, _, _, _, hlb⟩ := hls.form
      have HLS := hide (Strs.keep (w' := w) (fun g hg => (K.out.low.block g hg).symm) hls)
      clear hr hx hg hls
      go_wp2_with fail
      clear d0
      have K1 : Hid (CI ⟨.string tt, .slice a1 S.kinds.length b1, .slice a2 S.members.length b2, .slice a3 S.preds.length b3, .slice (some ⟨g, o, none⟩) S.classes.length b4, .slice a5 S.sources.length b5, .slice a6 S.rules.length b6, .slice a7 S.excepts.length b7, .slice a8 S.totals.length b8⟩ w (prs 0 (S.classes.take i) ++ (l.take 0).map (fun s => (s, (i : Int)))) wr) := by simpa using K
      go_loopw [24] (fun x wr => ∃ j : Nat, j ≤ l.length ∧ x = .int .i64 j ∧ Hid (CI ⟨.string tt, .slice a1 S.kinds.length b1, .slice a2 S.members.length b2, .slice a3 S.preds.length b3, .slice (some ⟨g, o, none⟩) S.classes.length b4, .slice a5 S.sources.length b5, .slice a6 S.rules.length b6, .slice a7 S.excepts.length b7, .slice a8 S.totals.length b8⟩ w (prs 0 (S.classes.take i) ++ (l.take j).map (fun s => (s, (i : Int)))) wr)) (fun x _ => l.length - (intOf x).toNat)
      case atStart => exact ⟨0, by omega, rfl, K1⟩
      case round =>
        clear K K1
        obtain ⟨j, hj, rfl, K⟩ := hrel
        by_cases hjl : j < l.length
        · obtain ⟨s, hsx⟩ : ∃ s, l[j]? = some s := ⟨l[j], List.getElem?_eq_getElem hjl⟩
          have HSN := hide (map_snoc (i : Int) hsx)
          obtain ⟨g2, o2, rfl, hg2, e0, hs⟩ := at_S (Strs.keep (w' := wr) (fun g hg => K.out.low.block g hg) HLS.out) hsx
          have CP := hide (putP_any K.out.map s hs (i : Int))
          unfold str at CP e0
          clear hsx hg2
          go_wp2_with (go_at_call 26; refine CP.out.mono ?_; rintro _ w3 ⟨⟨bb, rfl⟩, hm3, hf3⟩; have K3 := hide (K.out.fr hm3 hf3); clear hm3 hf3 CP e0)
          go_roundw
          case rel => exact ⟨j + 1, by omega, by go_num, by rw [HSN.out, ← List.append_assoc]; exact K3⟩
          case measure => simp [intOf]; omega
        · have hj' : j = l.length := by omega
          subst hj'
          have HE := hide (List.take_of_length_le (Nat.le_refl l.length))
          rw [HE.out, ← HPS.out] at K
          go_wp2_with fail
          go_roundw
          case rel => exact ⟨i + 1, by omega, by go_num, K⟩
          case measure => simp [intOf]; omega
    · have hi' : i = S.classes.length := by omega
      subst hi'
      have HE := hide (List.take_of_length_le (Nat.le_refl S.classes.length))
      rw [HE.out] at K
      clear hi hlt HC
      obtain ⟨-, -, -, x3⟩ : _ ∧ _ ∧ _ ∧ wr.cell? ⟨w.heap.size, 3, none⟩ = some (.slice a3 S.preds.length b3) := ⟨trivial, trivial, trivial, cell_of_row _ _ 3 _ _ _ K.out.box⟩
      have hmk := run_make (P := Tryz.prog) wr 61 3 iM _ Tryz.underlying61 hiM zM0 .i64 .i64 S.preds.length S.preds.length (by omega) (by omega) (by rw [zM2]; omega) (by omega)
      rw [zM1, Int.toNat_natCast, ← HLN.out, partI_zero] at hmk
      have y3 : (wr.alloc (.cells (partI (clsL S.classes S.preds) 0).toArray 3)).cell? ⟨w.heap.size, 3, none⟩ = some (.slice a3 S.preds.length b3) := by rw [World.cell?_alloc_past _ _ _ (loc_lt K.out.box)]; exact x3
      rw [HLN.out] at hmk
      clear hiM zM0 zM1 zM2
      go_wp2_with fail
      obtain ⟨W3, hW3⟩ : ∃ W3, W3 = wr := ⟨_, rfl⟩
      subst hW3
      go_loopw [41] (fun x wr => ∃ k : Nat, k ≤ S.preds.length ∧ x = .int .i64 k ∧ Hid (wr.heap[W3.heap.size]? = some (.cells (partI (clsL S.classes S.preds) k).toArray 3 (0, 0))) ∧ Hid (Below W3.heap.size W3 wr)) (fun x _ => S.preds.length - (intOf x).toNat)
      case atStart => exact ⟨0, by omega, rfl, hide (heap_alloc_new W3 _), hide ((Below.refl _ _).alloc (Nat.le_refl _) _)⟩
      case round =>
        clear hmk x3 y3
        obtain ⟨k, hk, rfl, HR, HW⟩ := hrel
        by_cases hlt : k < S.preds.length
        · obtain ⟨x, hx⟩ : ∃ x, S.preds[k]? = some x := ⟨S.preds[k], List.getElem?_eq_getElem hlt⟩
          have HWW := hide (K.out.low.trans (HW.out.mono K.out.low.size))
          have hr := RR.keep HM.out (w' := wr) (fun g hg => HWW.out.block g hg) (fun _ _ h => cPred.keep (fun g hg => HWW.out.block g hg) h)
          obtain ⟨g, o, ka, kc, va, vc, rfl, hg, d0, d1, d2, d3, hs, -⟩ := at_P hr hx
          unfold str at d0
          have hgd : (clsL S.classes S.preds).getD k 0 = clsF 0 S.classes x.name := by unfold clsL; rw [List.getD_eq_getElem?_getD, List.getElem?_map, hx]; rfl
          have hp := partI_step (l := clsL S.classes S.preds) (k := k) (by rw [HLN.out]; exact hlt)
          rw [hgd] at hp
          have HP := hide hp
          have HA := hide ((Below.refl _ wr).alloc (Nat.le_refl _) (.cells #[.string ⟨x.name.toArray⟩, .int .i64 x.sort, .slice ka x.kinds.length kc, .slice va x.values.length vc] 115))
          have hR1 := (HA.out.block _ (loc_lt HR.out)).trans HR.out
          have k1 := partI_cell hR1 (by rw [HLN.out]; exact hlt)
          have k2 := frozen_of_row _ _ k _ _ hR1
          have HR1 := hide hR1
          have HG : g < wr.heap.size := Nat.lt_of_lt_of_le hg HWW.out.size
          have hm1 : PMap (wr.alloc (.cells #[.string ⟨x.name.toArray⟩, .int .i64 x.sort, .slice ka x.kinds.length kc, .slice va x.values.length vc] 115)) (w.heap.size + 1) (prs 0 S.classes) := K.out.map.keep ((HA.out.block _ (Nat.lt_of_lt_of_le K.out.map.lt HW.out.size)).trans (HW.out.block _ K.out.map.lt))
          have hlk := hm1.look x.name hs
          have hac := asc_prs S.classes 0 x.name
          clear hr hx hg hp hgd hR1 hm1
          cases hc : asc (prs 0 S.classes) x.name with
          | some v =>
            rw [hc] at hlk hac
            simp only [Option.getD_some, Option.isSome_some] at hlk hac
            rw [← hac] at HP
            clear hac hc
            go_wp2_with fail
            go_roundw
            case rel =>
              refine ⟨k + 1, by omega, by go_num, hide ?_, hide ((HW.out.trans (HA.out.mono HW.out.size)).setCell (Nat.le_refl _) _)⟩
              rw [loc_set HR1.out]
              rw [← HP.out]
            case measure => simp [intOf]; omega
          | none =>
            rw [hc] at hlk hac
            simp only [Option.getD_none, Option.isSome_none] at hlk hac
            rw [← hac] at HP
            clear hac hc
            go_wp2_with fail
            go_roundw
            case rel =>
              refine ⟨k + 1, by omega, by go_num, hide ?_, hide ((HW.out.trans (HA.out.mono HW.out.size)).setCell (Nat.le_refl _) _)⟩
              rw [loc_set HR1.out]
              rw [← HP.out]
            case measure => simp [intOf]; omega
        · have hk' : k = S.preds.length := by omega
          subst hk'
          go_wp2_with fail
          go_ret
          refine ⟨_, rfl, ?_, K.out.low.trans (HW.out.mono K.out.low.size)⟩
          have h9 := HR.out
          rw [← HLN.out] at h9
          have := partI_owns (b := w.heap.size) h9 K.out.low.size (by rw [HLN.out]; unfold maxLen; omega)
          rw [HLN.out] at this
          exact this
end
end Go.Proofs.YtfnobccminhjpabGreat
/- The program's Of: the members of a kind. -/
namespace Go.Proofs.YtfnobccminhjpabGreat
open Go.RowKit Go.Shelf Go.Maps Go.WideMaps

/-- What has been gathered when i members have been asked. -/
structure OI (w : World) (bx M : Nat) (kinds : List Bytes) (L : List Int) (mv : Value) (wr : World) : Prop where
  low : Below w.heap.size w wr
  map : KMap 9 wr M kinds
  row : wr.ownsRow w.heap.size 3 1 mv L.length (ints L)
  far : w.heap.size ≤ M
theorem OI.below {w : World} {bx M : Nat} {kinds : List Bytes} {L : List Int} {mv : Value} {wr w' : World} (h : OI w bx M kinds L mv wr) (hb : Below wr.heap.size wr w') : OI w bx M kinds L mv w' :=
  ⟨h.low.trans (hb.mono h.low.size), h.map.keep (hb.block _ h.map.lt), owns_keep h.row fun g hg => hb.block g (owns_lt h.row hg), h.far⟩

theorem OI.grow {w : World} {bx M : Nat} {kinds : List Bytes} {L : List Int} {mv : Value} {wd w4 : World} {z : Int} {ob : Obj} {g4 cap4 : Nat} (h : OI w bx M kinds L mv wd) (hown : w4.ownsRow w.heap.size 3 1 (.slice (some ⟨g4, 0, none⟩) (L.length + 1) cap4) (L.length + 1) (ints L ++ [.int .i64 z]))
    (hg : (mv.ownBlock = some g4 ∧ (wd.alloc ob).grownBy w4 (some g4)) ∨ (g4 = wd.heap.size + 1 ∧ (wd.alloc ob).grownBy w4 none)) : OI w bx M kinds (L ++ [z]) (.slice (some ⟨g4, 0, none⟩) (L.length + 1) cap4) w4 := by
  have hr0 := h.row
  have e1 : (L ++ [z]).length = L.length + 1 := by simp
  have e2 : ints (L ++ [z]) = ints L ++ [.int .i64 z] := by unfold ints; simp
  have hr : wd.ownsRow 0 3 1 mv L.length (ints L) := by
    obtain ⟨h1, h2⟩ := hr0
    refine ⟨h1, ?_⟩
    rcases h2 with h2 | ⟨g, cap, cur, e, _, h4⟩
    · exact .inl h2
    · exact .inr ⟨g, cap, cur, e, Nat.zero_le _, h4⟩
  have hfr := grown_fr (Z := fun k => w.heap.size ≤ k) rfl hg fun g e => (hr0.lt g e).1
  exact ⟨h.low.trans (hfr.below fun k hk => ⟨Nat.lt_of_lt_of_le hk h.low.size, by show ¬ w.heap.size ≤ k; omega⟩), h.map.keep (grown_old rfl hg h.map.lt (own_neM hr h.map)), by rw [e1, e2]; exact hown, h.far⟩
section
variable {S : StatM} {st : St9} {w : World}
set_option maxRecDepth 100000 in
set_option maxHeartbeats 6400000 in
theorem of_any (h : SR w.heap.size w S st) (hm4 : S.members.length * 24 ≤ 140737488351232) (k : Int) : Calls Tryz.prog 12 #[st.agg, .int .i64 k] w fun e w' => ∃ v, e = .returned v ∧ w'.ownsRow w.heap.size 3 1 v (ofL S.kinds k S.members).length (ints (ofL S.kinds k S.members)) ∧ Below w.heap.size w w' := by
  have hk4 : S.kinds.length ≤ 140737488351232 := by obtain ⟨_, _, _, _, h9⟩ := h.kinds.form; exact h9
  obtain ⟨tt, ht⟩ := h.title
  obtain ⟨a1, b1, f1, _, _⟩ := h.kinds.form
  obtain ⟨a2, b2, f2, _, _⟩ := h.members.form
  obtain ⟨a3, b3, f3, _, _⟩ := h.preds.form
  obtain ⟨a4, b4, f4, _, _⟩ := h.classes.form
  obtain ⟨a5, b5, f5, _, _⟩ := h.sources.form
  obtain ⟨a6, b6, f6, _, _⟩ := h.rules.form
  obtain ⟨a7, b7, f7, _, _⟩ := h.excepts.form
  obtain ⟨a8, b8, f8, _, _⟩ := h.totals.form
  obtain ⟨s0, s1, s2, s3, s4, s5, s6, s7, s8⟩ := st
  simp only at ht f1 f2 f3 f4 f5 f6 f7 f8
  subst ht f1 f2 f3 f4 f5 f6 f7 f8
  have hA : Below w.heap.size w (w.alloc (.cells #[.string tt, .slice a1 S.kinds.length b1, .slice a2 S.members.length b2, .slice a3 S.preds.length b3, .slice a4 S.classes.length b4, .slice a5 S.sources.length b5, .slice a6 S.rules.length b6, .slice a7 S.excepts.length b7, .slice a8 S.totals.length b8] 31)) := (Below.refl _ w).alloc (Nat.le_refl _) _
  have CN := hide (numK_any (RR.keep h.kinds (w' := (w.alloc (.cells #[.string tt, .slice a1 S.kinds.length b1, .slice a2 S.members.length b2, .slice a3 S.preds.length b3, .slice a4 S.classes.length b4, .slice a5 S.sources.length b5, .slice a6 S.rules.length b6, .slice a7 S.excepts.length b7, .slice a8 S.totals.length b8] 31))) (fun g hg => hA.block g hg) (fun _ _ hx => hx)) hA.size hk4)
  have hbx : (w.alloc (.cells #[.string tt, .slice a1 S.kinds.length b1, .slice a2 S.members.length b2, .slice a3 S.preds.length b3, .slice a4 S.classes.length b4, .slice a5 S.sources.length b5, .slice a6 S.rules.length b6, .slice a7 S.excepts.length b7, .slice a8 S.totals.length b8] 31)).cell? ⟨w.heap.size, 2, none⟩ = some (.slice a2 S.members.length b2) := cell_of_row _ _ 2 _ _ _ (heap_alloc_new w _)
  rw [List.map_id] at CN
  have HA := hide hA
  have HBX := hide hbx
  have HM := hide h.members
  obtain ⟨iM, hiM, zM0, zM1, zM2⟩ := info_parts' infoI
  unfold St9.agg
  simp only at *
  clear h hA hbx
  go_enter Tryz.func12, Tryz.ntmps12
  go_wp2_with (go_at_call 27; refine CN.out.mono ?_; rintro _ w1 ⟨rfl, hm1, hb1⟩; have O1 : Hid (OI w w.heap.size (w.heap.size + 1) S.kinds [] (.slice none 0 0) w1) := hide ⟨HA.out.trans (hb1.mono HA.out.size), (by have hz : (w.alloc (.cells #[.string tt, .slice a1 S.kinds.length b1, .slice a2 S.members.length b2, .slice a3 S.preds.length b3, .slice a4 S.classes.length b4, .slice a5 S.sources.length b5, .slice a6 S.rules.length b6, .slice a7 S.excepts.length b7, .slice a8 S.totals.length b8] 31)).heap.size = w.heap.size + 1 := (by simp); rw [hz] at hm1; exact hm1), ⟨rfl, .inl ⟨rfl, rfl⟩⟩, Nat.le_succ _⟩; have x2 := (World.cell?_of_block (hb1.block w.heap.size (by simp))).trans HBX.out; clear hm1 hb1 CN)
  clear HA HBX x2
  go_loopw [6, 17] (fun mv x wr => ∃ (i : Nat) (a0 : Option Addr) (c0 : Nat), i ≤ S.members.length ∧ x = .int .i64 i ∧ mv = .slice a0 (ofL S.kinds k (S.members.take i)).length c0 ∧ Hid (OI w w.heap.size (w.heap.size + 1) S.kinds (ofL S.kinds k (S.members.take i)) (.slice a0 (ofL S.kinds k (S.members.take i)).length c0) wr)) (fun _ x _ => S.members.length - (intOf x).toNat)
  case atStart => exact ⟨0, none, 0, by omega, rfl, rfl, O1⟩
  case round =>
    clear O1
    obtain ⟨i, a0, c0, hi, rfl, rfl, HO⟩ := hrel
    by_cases hlt : i < S.members.length
    · obtain ⟨x, hx⟩ : ∃ x, S.members[i]? = some x := ⟨S.members[i], List.getElem?_eq_getElem hlt⟩
      have HSt := hide (ofL_step (kinds := S.kinds) (k := k) hx)
      have HLe := ofL_le (kinds := S.kinds) (k := k) (l := S.members) i
      have hr := RR.keep HM.out (w' := wr) (fun g hg => HO.out.low.block g hg) (fun _ _ h => h)
      obtain ⟨g, o, rfl, hg, d0, d1, hs, hs2⟩ := at_M hr hx
      have HG : Hid (g < wr.heap.size) := hide (Nat.lt_of_lt_of_le hg HO.out.low.size)
      clear hr hx hg
      unfold str at d0 d1
      have hA2 : Below wr.heap.size wr (wr.alloc (.cells #[.string ⟨x.1.toArray⟩, .string ⟨x.2.toArray⟩] 119)) := (Below.refl _ _).alloc (Nat.le_refl _) _
      have HO2 := hide (HO.out.below hA2)
      clear hA2
      generalize ofL S.kinds k (S.members.take i) = L at *
      obtain ⟨nn, D, hown, hNum, _⟩ := HO2.out.map
      have HN := hide (hNum x.2)
      have HK := hide (key_mk hs2)
      clear hNum
      go_upto_region 7 with (at_lookup; go_must (refine wpList_lookup_own_ok_int _ rfl _ _ 103 rfl 9 3 .i64 law Tryz.underlying103 Tryz.underlying3 (Tryz.zeroValue3 _) (w.heap.size + 1) nn _ rfl hown _ _ rfl HK.out ?_); intro cc hat hwc; have hc : cc = posB S.kinds x.2 := (by have h9 := hat.symm.trans HN.out.2; injection h9 with e; injection e); have hh := HN.out.1; subst hc; clear hat hwc HN hown; rw [hh]; clear hh)
      by_cases hin : x.2 ∈ S.kinds
      · rw [decide_eq_true hin]
        by_cases heq : (posB S.kinds x.2 : Int) = k
        · have hp : ofP S.kinds k x = true := by unfold ofP; rw [decide_eq_true hin, decide_eq_true heq]; rfl
          have hbq : ((posB S.kinds x.2 : Int) == k) = true := by simpa using heq
          rw [hp] at HSt
          simp only [if_true] at HSt
          have HROW := hide HO2.out.row
          have HL1 := HO2.out.low.size
          generalize (wr.alloc (.cells #[.string ⟨x.1.toArray⟩, .string ⟨x.2.toArray⟩] 119)) = wd at *
          clear heq hp
          go_wp2_with (at_builtin; go_must (refine wpList_append_two _ rfl _ _ 61 rfl w.heap.size 3 iM _ 1 8 Tryz.underlying61 hiM zM0 zM1 zM2 rfl (by decide) _ _ _ rfl (HROW.out.alloc _) ⟨wd.heap.size, 0, none⟩ 1 [.int .i64 i] rfl rfl (news_at rfl) (by simp [Value.oneCell']) (by unfold maxLen; omega) (by omega) (by simp; omega) ?_); intro g4 cap4 w4 hown4 hg4)
          have hz : (wd.alloc (.cells #[.int .i64 (i : Int)] 3)).heap.size = wd.heap.size + 1 := by simp
          rw [hz] at hg4
          refine ⟨⟨i + 1, some ⟨g4, 0, none⟩, cap4, by omega, by go_num, by rw [HSt.out]; simp, ?_⟩, by simp [intOf]; omega⟩
          have e1 : (L ++ [(i : Int)]).length = L.length + 1 := by simp
          rw [HSt.out, e1]
          exact hide (HO2.out.grow hown4 hg4)
        · have hp : ofP S.kinds k x = false := by unfold ofP; rw [decide_eq_false heq, Bool.and_false]
          have hbq : ((posB S.kinds x.2 : Int) == k) = false := by simpa using heq
          rw [hp] at HSt
          simp only [Bool.false_eq_true, if_false, List.append_nil] at HSt
          go_wp2_with fail
          go_roundw
          case rel => exact ⟨i + 1, a0, c0, by omega, by go_num, by rw [HSt.out], by rw [HSt.out]; exact HO2⟩
          case measure => simp [intOf]; omega
      · rw [decide_eq_false hin]
        have hp : ofP S.kinds k x = false := by unfold ofP; rw [decide_eq_false hin, Bool.false_and]
        rw [hp] at HSt
        simp only [Bool.false_eq_true, if_false, List.append_nil] at HSt
        go_wp2_with fail
        go_roundw
        case rel => exact ⟨i + 1, a0, c0, by omega, by go_num, by rw [HSt.out], by rw [HSt.out]; exact HO2⟩
        case measure => simp [intOf]; omega
    · have hk' : i = S.members.length := by omega
      subst hk'
      have HE := hide (List.take_of_length_le (Nat.le_refl S.members.length))
      rw [HE.out] at HO ⊢
      go_wp2_with fail
      go_ret
      exact ⟨_, rfl, HO.out.row, HO.out.low⟩
end
end Go.Proofs.YtfnobccminhjpabGreat
