/- A map of names to numbers, however many: what it holds is told by a list of pairs, the first of a name. -/
import Derived.Test.YtfnobccminhjpaaGreatNum8
namespace Go.Proofs.YtfnobccminhjpaaGreat
open Go.RowKit Go.Shelf Go.Maps Go.WideMaps

/-- The number of a name: that of the first pair that has it. -/
def asc : List (Bytes × Int) → Bytes → Option Int
  | [], _ => none
  | x :: r, s => if x.1 = s then some x.2 else asc r s
theorem asc_app (L M : List (Bytes × Int)) (s : Bytes) : asc (L ++ M) s = (asc L s).or (asc M s) := by
  induction L with
  | nil => rfl
  | cons x r ih =>
    simp only [List.cons_append, asc]
    split
    · rfl
    · exact ih
theorem asc_same {L : List (Bytes × Int)} {s : Bytes} {n : Int} (h : (asc L s).isSome = true) (t : Bytes) : asc (L ++ [(s, n)]) t = asc L t := by
  rw [asc_app]
  by_cases e : t = s
  · subst e
    obtain ⟨v, hv⟩ := Option.isSome_iff_exists.1 h
    rw [hv]; rfl
  · have : asc [(s, n)] t = none := by simp only [asc]; rw [if_neg (fun h => e h.symm)]
    rw [this, Option.or_none]
theorem asc_new {L : List (Bytes × Int)} {s : Bytes} {n : Int} (h : asc L s = none) (t : Bytes) : asc (L ++ [(s, n)]) t = if t = s then some n else asc L t := by
  rw [asc_app]
  by_cases e : t = s
  · subst e
    rw [h, if_pos rfl]
    simp [asc]
  · have : asc [(s, n)] t = none := by simp only [asc]; rw [if_neg (fun h => e h.symm)]
    rw [this, Option.or_none, if_neg e]

def PMap (w : World) (b : Nat) (L : List (Bytes × Int)) : Prop := ∃ es clock, w.heap[b]? = some (.map es clock) ∧
  (∀ x ∈ es.toList, ∃ (s : Bytes) (v : Int), x.key = .string ⟨s.toArray⟩ ∧ s.length ≤ maxLen ∧ x.val = .int .i64 v ∧ asc L s = some v) ∧ ∀ s v, asc L s = some v → ∃ x ∈ es.toList, x.key = .string ⟨s.toArray⟩
theorem str_inj {s t : Bytes} (h : (Value.string ⟨s.toArray⟩) = .string ⟨t.toArray⟩) : s = t := by
  injection h with h
  injection h with h
  exact congrArg Array.toList h
section
variable {w w' : World} {b : Nat} {L : List (Bytes × Int)}
theorem PMap.made (w : World) : PMap (w.alloc (.map #[] 0)) w.heap.size [] := ⟨#[], 0, heap_alloc_new w _, by simp, fun s v h => by simp [asc] at h⟩
theorem PMap.keep (h : PMap w b L) (hb : w'.heap[b]? = w.heap[b]?) : PMap w' b L := by
  obtain ⟨es, c, h1, h2⟩ := h
  exact ⟨es, c, hb.trans h1, h2⟩
theorem PMap.lt (h : PMap w b L) : b < w.heap.size := by obtain ⟨es, c, h1, _⟩ := h; exact loc_lt h1
theorem PMap.look (h : PMap w b L) (s : Bytes) (hs : s.length ≤ maxLen) : (Instr.lookup 98 (.map (some b)) (.string ⟨s.toArray⟩) true).run Tryz.prog w = .ok (.tuple #[.int .i64 ((asc L s).getD 0), .bool (asc L s).isSome]) w := by
  obtain ⟨es, clock, hb, hk, ha⟩ := h
  have hkey := key_mk hs
  rcases law.find w hkey es.toList (fun e he => by obtain ⟨t, v, h1, h2, _⟩ := hk e he; rw [h1]; exact ⟨_, key_mk h2⟩) with ⟨h1, h2⟩ | ⟨j, e0, h1, h2, h3⟩
  · have hn : asc L s = none := by
      cases hc : asc L s with
      | none => rfl
      | some v => obtain ⟨x, hx, hxk⟩ := ha s v hc; exact absurd hxk (h2 x hx)
    rw [hn]
    simp [Instr.lookup, run_underlying Tryz.underlying98, MapKept.run_getObj_map hb, law.check w _ hkey, h1, Tryz.zeroValue3, Result.andThen]
  · obtain ⟨t, v, k1, _, k3, k4⟩ := hk e0 (List.mem_of_getElem? h2)
    have e : t = s := str_inj (k1.symm.trans h3)
    subst e
    rw [k4]
    simp [Instr.lookup, run_underlying Tryz.underlying98, MapKept.run_getObj_map hb, law.check w _ hkey, h1, k3, Result.andThen]
theorem PMap.put (h : PMap w b L) (s : Bytes) (hs : s.length ≤ maxLen) (n : Int) (hn : asc L s = none) : ∃ w', (Instr.mapUpdate 98 (.map (some b)) (.string ⟨s.toArray⟩) (.int .i64 n)).run Tryz.prog w = .ok () w' ∧ PMap w' b (L ++ [(s, n)]) ∧ w.grownBy w' (some b) := by
  obtain ⟨es, clock, hb, hk, ha⟩ := h
  have hkey := key_mk hs
  rcases law.find w hkey es.toList (fun e he => by obtain ⟨t, v, h1, h2, _⟩ := hk e he; rw [h1]; exact ⟨_, key_mk h2⟩) with ⟨h1, h2⟩ | ⟨j, e0, h1, h2, h3⟩
  · refine ⟨Go.ChangeMaps.setBlock w b (.map (es.push ⟨.string ⟨s.toArray⟩, .int .i64 n, clock⟩) (clock + 1)), ?_, ⟨_, _, Go.ChangeMaps.heap_setBlock_same hb _, ?_, ?_⟩, ⟨rfl, rfl, rfl, by simp [Go.ChangeMaps.setBlock], fun i _ hi => Go.ChangeMaps.heap_setBlock_other hb _ (fun e => hi (by rw [e]))⟩⟩
    · simp [Instr.mapUpdate, run_underlying Tryz.underlying98, MapKept.run_getObj_map hb, law.check w false hkey, h1, MapKept.run_setObj_map _ hb, Result.andThen, Go.ChangeMaps.setBlock]
    · intro x hx
      simp only [Array.toList_push, List.mem_append, List.mem_singleton] at hx
      rcases hx with hx | rfl
      · obtain ⟨t, v, k1, k2, k3, k4⟩ := hk x hx
        refine ⟨t, v, k1, k2, k3, ?_⟩
        rw [asc_new hn, if_neg (fun e => by subst e; rw [hn] at k4; cases k4)]
        exact k4
      · exact ⟨s, n, rfl, hs, rfl, by rw [asc_new hn, if_pos rfl]⟩
    · intro t v hv
      rw [asc_new hn] at hv
      by_cases e : t = s
      · subst e
        exact ⟨⟨.string ⟨t.toArray⟩, .int .i64 n, clock⟩, by simp, rfl⟩
      · rw [if_neg e] at hv
        obtain ⟨x, hx, hxk⟩ := ha t v hv
        exact ⟨x, by simp [Array.mem_toList_iff.1 hx], hxk⟩
  · obtain ⟨t, v, k1, _, k3, k4⟩ := hk e0 (List.mem_of_getElem? h2)
    have e : t = s := str_inj (k1.symm.trans h3)
    subst e
    rw [hn] at k4
    cases k4
theorem PMap.more (h : PMap w b L) (s : Bytes) (n : Int) (hn : (asc L s).isSome = true) : PMap w b (L ++ [(s, n)]) := by
  obtain ⟨es, clock, hb, hk, ha⟩ := h
  refine ⟨es, clock, hb, fun x hx => ?_, fun t v hv => ?_⟩
  · obtain ⟨t, v, k1, k2, k3, k4⟩ := hk x hx
    exact ⟨t, v, k1, k2, k3, by rw [asc_same hn]; exact k4⟩
  · rw [asc_same hn] at hv
    exact ha t v hv

set_option maxRecDepth 100000 in
set_option maxHeartbeats 1600000 in
theorem putP_any (hm : PMap w b L) (s : Bytes) (hs : s.length ≤ maxLen) (n : Int) :
    Calls Tryz.prog 87 #[.map (some b), str s, .int .i64 n] w fun e w' => (∃ x, e = .returned (.bool x)) ∧ PMap w' b (L ++ [(s, n)]) ∧ Fr (fun k => k = b) w w' := by
  have HL := hm.look s hs
  unfold str
  cases hc : asc L s with
  | some v =>
    have HM := hide (hm.more s n (by rw [hc]; rfl))
    rw [hc] at HL
    simp only [Option.getD_some, Option.isSome_some] at HL
    clear hm hc
    go_enter Tryz.func87, Tryz.ntmps87
    go_wp2_with fail
    go_ret
    exact ⟨⟨_, rfl⟩, HM.out, .refl _ _⟩
  | none =>
    obtain ⟨w1, HU, hm1, hg1⟩ := hm.put s hs n hc
    rw [hc] at HL
    simp only [Option.getD_none, Option.isSome_none] at HL
    have HM := hide hm1
    have HG := hide hg1
    clear hm hc hm1 hg1
    go_enter Tryz.func87, Tryz.ntmps87
    go_wp2_with fail
    go_ret
    exact ⟨⟨_, rfl⟩, HM.out, .of_grown HG.out fun k e => by cases e; rfl⟩
end

/-- The pairs of classes: of each name its class's number. -/
def prs : Nat → List (List Bytes) → List (Bytes × Int)
  | _, [] => []
  | k, l :: r => l.map (fun s => (s, (k : Int))) ++ prs (k + 1) r
/-- The first class that has a name. -/
def clsF : Nat → List (List Bytes) → Bytes → Int
  | _, [], _ => -1
  | k, l :: r, s => if s ∈ l then k else clsF (k + 1) r s
theorem asc_map (l : List Bytes) (k : Int) (s : Bytes) : asc (l.map fun s => (s, k)) s = if s ∈ l then some k else none := by
  induction l with
  | nil => rfl
  | cons x r ih =>
    simp only [List.map_cons, asc, List.mem_cons]
    by_cases e : x = s
    · subst e; simp
    · rw [if_neg e, ih]
      have : (s = x ∨ s ∈ r) ↔ s ∈ r := ⟨fun h => h.resolve_left fun h => e h.symm, .inr⟩
      simp only [this]
theorem asc_prs (cs : List (List Bytes)) (k : Nat) (s : Bytes) : (match asc (prs k cs) s with | some v => v | none => -1) = clsF k cs s := by
  induction cs generalizing k with
  | nil => rfl
  | cons l r ih =>
    simp only [prs, clsF, asc_app, asc_map]
    by_cases h : s ∈ l
    · rw [if_pos h, if_pos h]; rfl
    · rw [if_neg h, if_neg h, Option.none_or]; exact ih (k + 1)
theorem prs_app (cs ds : List (List Bytes)) (k : Nat) : prs k (cs ++ ds) = prs k cs ++ prs (k + cs.length) ds := by
  induction cs generalizing k with
  | nil => rfl
  | cons l r ih =>
    simp only [List.cons_append, prs, ih, List.length_cons, List.append_assoc]
    congr 3
    omega
theorem prs_snoc {cs : List (List Bytes)} {i : Nat} {l : List Bytes} (h : cs[i]? = some l) : prs 0 (cs.take (i + 1)) = prs 0 (cs.take i) ++ l.map (fun s => (s, (i : Int))) := by
  have hi : i < cs.length := by
    apply Classical.byContradiction
    intro hn
    rw [List.getElem?_eq_none (by omega)] at h
    cases h
  rw [take_snoc h, prs_app]
  have e : (0 + (cs.take i).length) = i := by simp; omega
  rw [e]
  simp only [prs, List.append_nil]
theorem clsF_step {cs : List (List Bytes)} {i : Nat} {l : List Bytes} (h : cs[i]? = some l) (s : Bytes) : clsF i (cs.drop i) s = if s ∈ l then (i : Int) else clsF (i + 1) (cs.drop (i + 1)) s := by
  have hi : i < cs.length := by
    apply Classical.byContradiction
    intro hn
    rw [List.getElem?_eq_none (by omega)] at h
    cases h
  rw [List.drop_eq_getElem_cons hi]
  have : cs[i] = l := by
    rw [List.getElem?_eq_getElem hi] at h
    exact Option.some.inj h
  rw [this]
  rfl
end Go.Proofs.YtfnobccminhjpaaGreat
