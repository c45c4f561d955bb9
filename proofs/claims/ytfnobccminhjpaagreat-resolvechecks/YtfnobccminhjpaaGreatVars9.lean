/- Vars: a rule's variables told to the caller. -/
import Derived.Test.YtfnobccminhjpaaGreatFirstV8
namespace Go.Proofs.YtfnobccminhjpaaGreat
open Go.RowKit Go.Shelf Go.Maps Go.WideMaps

theorem strs_at {l : List Bytes} {i : Nat} (hi : i < l.length) : (strs l)[i]? = some (str (l.getD i [])) := by
  unfold strs
  rw [List.getElem?_map, List.getElem?_eq_getElem hi]
  simp [List.getD, hi]
/-- The names that have been copied, and what is still empty. -/
def part (l : List Bytes) (k : Nat) : List Value := strs (l.take k) ++ List.replicate (l.length - k) (.string ⟨#[]⟩)
theorem part_length {l : List Bytes} {k : Nat} (h : k ≤ l.length) : (part l k).length = l.length := by unfold part strs; simp; omega
theorem part_zero (l : List Bytes) : (madeCells (Value.string ⟨#[]⟩).cells (l.length * 1)) = (part l 0).toArray := by
  apply Array.ext'
  unfold madeCells part strs
  simp [Value.cells, Array.toList_map]
  apply List.ext_getElem?
  intro i
  simp [List.getElem?_map, List.getElem?_replicate]
  by_cases h : i < l.length
  · simp [h, Nat.mod_one]
  · simp [h]
theorem part_step {l : List Bytes} {k : Nat} (h : k < l.length) : (part l k).toArray.setIfInBounds k (str (l.getD k [])) = (part l (k + 1)).toArray := by
  apply Array.ext'
  simp only [Array.toList_setIfInBounds]
  apply List.ext_getElem?
  intro i
  have e1 : (part l k).length = l.length := part_length (by omega)
  rw [List.getElem?_set]
  have hlk : (strs (l.take k)).length = k := by unfold strs; simp; omega
  have hlk1 : (strs (l.take (k + 1))).length = k + 1 := by unfold strs; simp; omega
  unfold part
  by_cases h1 : k = i
  · subst h1
    rw [if_pos rfl, if_pos (by rw [e1.symm] at h; exact h), List.getElem?_append_left (by omega)]
    unfold strs
    rw [List.getElem?_map, List.getElem?_take, if_pos (by omega), List.getElem?_eq_getElem h]
    simp [List.getD, h]
  · rw [if_neg h1]
    by_cases h2 : i < k
    · rw [List.getElem?_append_left (by omega), List.getElem?_append_left (by omega)]
      unfold strs
      rw [List.getElem?_map, List.getElem?_map, List.getElem?_take, List.getElem?_take, if_pos h2, if_pos (by omega)]
    · rw [List.getElem?_append_right (by omega), List.getElem?_append_right (by omega), List.getElem?_replicate, List.getElem?_replicate, hlk, hlk1]
      by_cases h3 : i < l.length
      · rw [if_pos (by omega), if_pos (by omega)]
      · rw [if_neg (by omega), if_neg (by omega)]
theorem part_all (l : List Bytes) : part l l.length = strs l := by unfold part; simp
theorem owns_base {w : World} {b e k : Nat} {v : Value} {n : Nat} {xs : List Value} (h : w.ownsRow 0 e k v n xs) (hb : ∀ g, v.ownBlock = some g → b ≤ g) : w.ownsRow b e k v n xs := by
  obtain ⟨h1, h2⟩ := h
  refine ⟨h1, ?_⟩
  rcases h2 with h2 | ⟨g, cap, cur, rfl, _, h4⟩
  · exact .inl h2
  · exact .inr ⟨g, cap, cur, rfl, hb g rfl, h4⟩
theorem nz_vars (S : StatM) (k : Int) : Nz (varsM S k) := by
  unfold varsM
  refine Nz.bind (Nz.want (by decide)) fun _ => ?_
  split
  · exact nz_parts _ _
  · exact Nz.err (by decide)

section
variable {S : StatM} {st : St9} {w w' : World}
/-- What Vars answers. -/
def Ex (w : World) (c : Int) (o : Er Scope) (e : Ending) (w' : World) : Prop := Below w.heap.size w w' ∧
  ((c ≠ 0 ∧ e = .returned (.tuple #[.slice none 0 0, .slice none 0 0, .int .i64 c])) ∨ (c = 0 ∧ ∃ d, o = .error d ∧ e = .returned (.tuple #[.slice none 0 0, .slice none 0 0, .int .i64 d])) ∨
    (c = 0 ∧ ∃ v nv kv, o = .ok v ∧ e = .returned (.tuple #[nv, kv, .int .i64 0]) ∧ w'.ownsRow w.heap.size 9 1 nv v.length (strs v.names) ∧ w'.ownsRow w.heap.size 3 1 kv v.length (ints v.kinds)))
set_option maxRecDepth 100000 in
set_option maxHeartbeats 6400000 in
theorem vars_any (h : SR w.heap.size w S st) (k : Int) : Calls Tryz.prog 10 #[st.agg, .int .i64 k] w fun e w' => Ex w (checkM S).1 (varsM S k) e w' := by
  obtain ⟨tt, ht⟩ := h.title
  obtain ⟨a1, b1, f1, _, l1⟩ := h.kinds.form
  obtain ⟨a2, b2, f2, _, l2⟩ := h.members.form
  obtain ⟨a3, b3, f3, _, l3⟩ := h.preds.form
  obtain ⟨a4, b4, f4, _, l4⟩ := h.classes.form
  obtain ⟨a5, b5, f5, _, l5⟩ := h.sources.form
  obtain ⟨a6, b6, f6, _, l6⟩ := h.rules.form
  obtain ⟨a7, b7, f7, _, l7⟩ := h.excepts.form
  obtain ⟨a8, b8, f8, _, l8⟩ := h.totals.form
  obtain ⟨s0, s1, s2, s3, s4, s5, s6, s7, s8⟩ := st
  simp only at ht f1 f2 f3 f4 f5 f6 f7 f8
  subst ht f1 f2 f3 f4 f5 f6 f7 f8
  have hmf : ∀ (fn : Fn) (first cap : Array Value) (w : World), (Instr.makeFunc fn first cap).run Tryz.prog w = .ok (.func fn first cap) w := fun _ _ _ _ => rfl
  obtain ⟨X, hX⟩ : ∃ X, X = (w.alloc (.cells #[.string tt, .slice a1 S.kinds.length b1, .slice a2 S.members.length b2, .slice a3 S.preds.length b3, .slice a4 S.classes.length b4, .slice a5 S.sources.length b5, .slice a6 S.rules.length b6, .slice a7 S.excepts.length b7, .slice a8 S.totals.length b8] 31)) := ⟨_, rfl⟩
  have hXs : X.heap.size = w.heap.size + 1 := by rw [hX]; simp
  have hX0 : X.heap[w.heap.size]? = some (.cells #[.string tt, .slice a1 S.kinds.length b1, .slice a2 S.members.length b2, .slice a3 S.preds.length b3, .slice a4 S.classes.length b4, .slice a5 S.sources.length b5, .slice a6 S.rules.length b6, .slice a7 S.excepts.length b7, .slice a8 S.totals.length b8] 31 (0, 0)) := by rw [hX]; exact heap_alloc_new w _
  have hXb : Below w.heap.size w X := by rw [hX]; exact (Below.refl _ w).alloc (Nat.le_refl _) _
  obtain ⟨Y, hY⟩ : ∃ Y, Y = (X.alloc (.cells #[.int .i64 k] 3)) := ⟨_, rfl⟩
  have hYs : Y.heap.size = w.heap.size + 2 := by rw [hY]; simp [hXs]
  have hY0 : Y.heap[w.heap.size]? = X.heap[w.heap.size]? := by rw [hY]; exact Below.heap_alloc _ _ _ (by omega)
  have hY1 : Y.heap[w.heap.size + 1]? = some (.cells #[.int .i64 k] 3 (0, 0)) := by rw [hY, ← hXs]; exact heap_alloc_new X _
  have hYb : Below w.heap.size w Y := by rw [hY]; exact hXb.alloc (by omega) _
  obtain ⟨U, hU⟩ : ∃ U, U = (Y.alloc (.cells #[.pointer none] 90)) := ⟨_, rfl⟩
  have hUs : U.heap.size = w.heap.size + 3 := by rw [hU]; simp [hYs]
  have hU0 : U.heap[w.heap.size]? = Y.heap[w.heap.size]? := by rw [hU]; exact Below.heap_alloc _ _ _ (by omega)
  have hU1 : U.heap[w.heap.size + 1]? = Y.heap[w.heap.size + 1]? := by rw [hU]; exact Below.heap_alloc _ _ _ (by omega)
  have hU2 : U.heap[w.heap.size + 2]? = some (.cells #[.pointer none] 90 (0, 0)) := by rw [hU, ← hYs]; exact heap_alloc_new Y _
  have hUb : Below w.heap.size w U := by rw [hU]; exact hYb.alloc (by omega) _
  have CF := hide (firstV_any (SR.mono (N' := U.heap.size) (by omega) (h.keep fun g hg => hUb.block g hg)) k (kb := w.heap.size + 1) (sb := w.heap.size) (vb := w.heap.size + 2) (cell_of_row U _ 0 _ _ _ (hU1.trans hY1)) (cell_of_row U _ 6 _ _ _ (hU0.trans (hY0.trans hX0))) hU2)
  have HUB := hide hUb
  have HUS := hide hUs
  unfold St9.agg at *
  simp only at *
  have hnz := nz_vars S k
  have HFIT : Hid (∀ v, (checkM S).1 = 0 → varsM S k = .ok v → v.length ≤ 1028 ∧ AllVar v) := hide (fun v h0 hv => ⟨(vars_fit h0 hv).1, (vars_fit h0 hv).2.1⟩)
  generalize (checkM S).1 = c0 at *
  generalize (checkM S).2 = n0 at *
  generalize varsM S k = o at *
  clear h hUb hUs hXb hYb hX0 hY0 hY1 hU0 hU1 hU2
  subst hX
  subst hY
  subst hU
  go_enter Tryz.func10, Tryz.ntmps10
  go_wp2_with fail
  refine CF.out.mono ?_
  rintro e w1 ⟨hf, hE⟩
  have HB := hide (HUB.out.trans (hf.below (n := w.heap.size) fun j hj => ⟨by have := HUS.out; omega, by show ¬ j = w.heap.size + 2; omega⟩))
  have HS1 : w.heap.size + 3 ≤ w1.heap.size := by have := hf.size; have := HUS.out; omega
  have HZ0 := hide HUS.out
  clear hf CF HUB HUS
  rcases hE with ⟨hc, rfl⟩ | ⟨hc, d, ho, rfl⟩ | ⟨hc, v, Z, V, M, nv, kv, ho, rfl, hb1, hs1, hz1⟩
  · have hbq : (c0 == 0) = false := by simpa using hc
    have HB2 := hide (HB.out.trans (((Below.refl _ w1).alloc (Nat.le_refl _) (.cells #[.int .i64 c0, .int .i64 n0] 85)).mono HB.out.size))
    go_wp2_with fail
    go_region
    go_wp2_with fail
    simp [bodyPost, results, Tryz.results10, go_sem]
    exact ⟨HB2.out.trans ((Lk.of (w := w1.alloc (.cells #[.int .i64 c0, .int .i64 n0] 85))).below.mono HB2.out.size), .inl ⟨hc, rfl⟩⟩
  · have hd := hnz d ho
    have hbq : (d == 0) = false := by simpa using hd
    have HB2 := hide (HB.out.trans (((Below.refl _ w1).alloc (Nat.le_refl _) (.cells #[.int .i64 d, .int .i64 n0] 85)).mono HB.out.size))
    go_wp2_with fail
    go_region
    go_wp2_with fail
    simp [bodyPost, results, Tryz.results10, go_sem]
    exact ⟨HB2.out.trans ((Lk.of (w := w1.alloc (.cells #[.int .i64 d, .int .i64 n0] 85))).below.mono HB2.out.size), .inr (.inl ⟨hc, d, ho, rfl⟩)⟩
  · have hfit := HFIT.out v hc ho
    clear hnz HFIT
    have hA1 : Below w1.heap.size w1 (w1.alloc (.cells #[.int .i64 0, .int .i64 n0] 85)) := (Below.refl _ w1).alloc (Nat.le_refl _) _
    have HB2 := hide (HB.out.trans (hA1.mono HB.out.size))
    have hv2 := (hA1.block _ (loc_lt hb1)).trans hb1
    have hc2 := hs1.below hA1
    have HZ := hide (fun j (hj : Z j) => (show w.heap.size + 3 ≤ j by have h1 := hz1 j hj; rw [HZ0.out] at h1; exact h1))
    have HO := hide ho
    have HS2 : w.heap.size + 3 ≤ (w1.alloc (.cells #[.int .i64 0, .int .i64 n0] 85)).heap.size := by have := hA1.size; omega
    clear hs1 hb1 hz1 hA1 HB HS1 ho HZ0 hmf hXs hYs
    go_upto_region 5 with fail
    generalize (w1.alloc (.cells #[.int .i64 0, .int .i64 n0] 85)) = w2 at *
    have x0 := cell_of_row w2 (w.heap.size + 2) 0 _ _ _ hv2
    have x1 := cell_of_row w2 V 0 _ _ _ hc2.box
    have x2 := cell_of_row w2 V 1 _ _ _ hc2.box
    simp only [List.getElem?_toArray, List.getElem?_cons_zero, List.getElem?_cons_succ] at x0 x1 x2
    obtain ⟨na, nc, rfl⟩ := owns_slice hc2.rowN
    have hln : v.names.length = v.length := by unfold Scope.names; simp
    have HX := hide (⟨hv2, hc2⟩ : _ ∧ _)
    have hl := hfit.1
    have HAV := hide hfit.2
    obtain ⟨iM, hiM, zM0, zM1, zM2⟩ := info_parts' infoS
    have hmk := run_make (P := Tryz.prog) w2 22 9 iM _ Tryz.underlying22 hiM zM0 .i64 .i64 v.length v.length (by omega) (by omega) (by rw [zM2]; omega) (by omega)
    rw [zM1, Int.toNat_natCast, ← hln, part_zero] at hmk
    rw [← hln] at x1
    have HLN := hide hln
    rw [← hln] at hl
    clear zM0 zM1 zM2 hiM hv2 hc2 hfit hln
    have xb0 : (w2.alloc (.cells (part v.names 0).toArray 9)).cell? ⟨w.heap.size + 2, 0, none⟩ = some (ptr V) := by rw [World.cell?_alloc_past _ _ _ (by show w.heap.size + 2 < w2.heap.size; omega)]; exact x0
    have xb1 : (w2.alloc (.cells (part v.names 0).toArray 9)).cell? ⟨V, 0, none⟩ = some (.slice na v.names.length nc) := by rw [World.cell?_alloc_past _ _ _ (loc_lt HX.out.2.box)]; exact x1
    go_wp2_with fail
    go_loopw [31] (fun x wr => ∃ k : Nat, k ≤ v.names.length ∧ x = .int .i64 k ∧ Hid (wr.heap[w2.heap.size]? = some (.cells (part v.names k).toArray 9 (0, 0))) ∧ Hid (Below w2.heap.size w2 wr)) (fun x _ => v.names.length - (intOf x).toNat)
    case atStart => exact ⟨0, by omega, rfl, hide (heap_alloc_new w2 _), hide ((Below.refl _ _).alloc (Nat.le_refl _) _)⟩
    case round =>
      clear hmk xb0 xb1 x0 x1
      obtain ⟨k, hk, rfl, HR, HW⟩ := hrel
      by_cases hlt : k < v.names.length
      · obtain ⟨g, c, e1, hc, -, -⟩ := owns_at (HX.out.2.below HW.out).rowN (strs_at hlt)
        simp only [Value.slice.injEq] at e1
        obtain ⟨rfl, -, rfl⟩ := e1
        have HS := hide (var_short (HAV.out (v.names.getD k []) (by rw [List.getD_eq_getElem?_getD, List.getElem?_eq_getElem hlt]; simp)))
        have HP := hide (part_step hlt)
        generalize v.names.getD k [] = s at hc HS HP
        have CC := hide (clone_any ⟨s.toArray⟩ wr (by show s.toArray.size ≤ _; have := HS.out; simp only [List.size_toArray]; omega))
        unfold str at hc
        go_wp2_with fail
        refine CC.out.mono ?_
        rintro _ w3 ⟨rfl, hw1⟩
        have hR1 := (hw1.block _ (loc_lt HR.out)).trans HR.out
        have k1 : w3.cell? ⟨w2.heap.size, k, none⟩ = some (.string ⟨#[]⟩) := by
          rw [cell_of_row w3 _ k _ _ _ hR1]
          unfold part
          have : (strs (v.names.take k)).length = k := by unfold strs; simp; omega
          simp [List.getElem?_append_right, this, List.getElem?_replicate]
          omega
        have k2 : w3.frozen? ⟨w2.heap.size, k, none⟩ = false := frozen_of_row w3 _ k _ _ hR1
        have HR1 := hide hR1
        have HW1 := hide (HW.out.trans (hw1.mono HW.out.size))
        clear hw1 hR1 CC
        go_wp2_with fail
        go_roundw
        case rel =>
          refine ⟨k + 1, by omega, by go_num, hide ?_, hide (HW1.out.setCell (Nat.le_refl _) _)⟩
          rw [loc_set HR1.out]
          rw [← HP.out]
          rfl
        case measure => simp [intOf]; omega
      · have hk' : k = v.names.length := by omega
        subst hk'
        have y0 : wr.cell? ⟨w.heap.size + 2, 0, none⟩ = some (ptr V) := cell_of_row wr _ 0 _ _ _ ((HW.out.block _ (loc_lt HX.out.1)).trans HX.out.1)
        have y1 : wr.cell? ⟨V, 1, none⟩ = some kv := cell_of_row wr _ 1 _ _ _ (HX.out.2.below HW.out).box
        go_wp2_with fail
        go_region
        go_wp2_with fail
        simp [bodyPost, results, Tryz.results10, go_sem]
        have hlk : Below wr.heap.size wr wr.drew := ⟨rfl, rfl, rfl, Nat.le_refl _, fun _ _ => rfl⟩
        refine ⟨(HB2.out.trans (HW.out.mono HB2.out.size)).trans (hlk.mono (Nat.le_trans HB2.out.size HW.out.size)), .inr (.inr ⟨hc, v, _, kv, HO.out, rfl, ?_, ?_⟩)⟩
        · have hR := (hlk.block _ (loc_lt HR.out)).trans HR.out
          refine ⟨by unfold strs; simp [HLN.out], .inr ⟨w2.heap.size, v.names.length, _, by rw [HLN.out], by omega, hR, by rw [HLN.out]; exact Nat.le_refl _, by unfold maxLen; omega, ?_, ?_⟩⟩
          · rw [part_all]; unfold strs; simp
          · rw [part_all, Nat.mul_one, List.toList_toArray]; exact List.take_of_length_le (by unfold strs; simp [HLN.out])
        · have hK := ((HX.out.2.below HW.out).below hlk)
          exact owns_base hK.rowK fun g hg => by have := HZ.out g (hK.zk g hg); omega
end
end Go.Proofs.YtfnobccminhjpaaGreat
/- The law's small statute. -/
namespace Go.Proofs.YtfnobccminhjpaaGreat
open Go.RowKit Go.Shelf Go.Maps Go.WideMaps

def bX : Bytes := [88]
def bY : Bytes := [89]
def bOld : Bytes := [111, 108, 100]
def bPerson : Bytes := [112, 101, 114, 115, 111, 110]
def bAnn : Bytes := [97, 110, 110]
def bAct : Bytes := [97, 99, 116]
def litX : LitM := ⟨false, bOld, [bX], false, 0⟩
def prem1 : PremM := ⟨1, litX, ⟨[], 0, []⟩, [], []⟩
def prem2 : PremM := ⟨3, ⟨false, [], [], false, 0⟩, ⟨[], 0, []⟩, bX, bY⟩
def smallM (body : List PremM) : StatM := ⟨[], [bPerson], [(bAnn, bPerson)], [⟨bOld, 1, [bPerson], []⟩], [], [(bAct, 1)], [⟨[114], bAct, 1, 0, body, 1, litX⟩], [], []⟩
theorem small_one : checkM (smallM [prem1]) = (0, 5) := by kernel_rfl
theorem small_vars : varsM (smallM [prem1]) 0 = .ok [(bX, 0)] := by kernel_rfl
theorem small_two : checkM (smallM [prem1, prem2]) = (86, 4) := by kernel_rfl

theorem RR.one {α : Type} {N k : Nat} {c : World → α → List Value → Prop} {w : World} {a : α} {g T cap : Nat} {xs : List Value} (hg : w.heap[g]? = some (.cells xs.toArray T (0, 0))) (hN : g < N) (hk : xs.length = k) (hcap : 1 ≤ cap) (hc : c w a xs) : RR N k c w [a] (.slice (some ⟨g, 0, none⟩) 1 cap) := by
  refine ⟨_, cap, rfl, hcap, by simp, fun i x hi => ?_⟩
  cases i with
  | succ i => simp at hi
  | zero =>
    simp at hi
    subst hi
    refine ⟨g, 0, xs, rfl, hN, hk, fun j u hu => ?_, hc⟩
    have : (0 + 0 * k + j) = j := by simp
    rw [this, cell_of_row w g j _ _ _ hg]
    simpa using hu
theorem RR.none {α : Type} {N k : Nat} {c : World → α → List Value → Prop} {w : World} : RR N k c w [] (.slice .none 0 0) := ⟨_, _, rfl, Nat.le_refl _, Nat.zero_le _, fun i x hi => by simp at hi⟩
theorem heap_at {w : World} {o : Obj} {k : Nat} (h : k = w.heap.size) : (w.alloc o).heap[k]? = some o := by subst h; exact heap_alloc_new w o
/-- One block's slice. -/
abbrev sl (g : Nat) : Value := .slice (some ⟨g, 0, none⟩) 1 1
def litW (n : Nat) : List Value := [.bool false, str bOld, sl (n + 1), .bool false, .int .i64 0]
def premW (n : Nat) : List Value := .int .i64 1 :: litW n ++ [.slice none 0 0, .int .i64 0, .slice none 0 0] ++ [str [], str []]
def ruleW (n : Nat) (bv : Value) : List Value := [str [114], str bAct, .int .i64 1, .int .i64 0, bv, .int .i64 1] ++ litW n
/-- The small statute's blocks, behind n. -/
structure SmH (n : Nat) (bv : Value) (w : World) : Prop where
  b1 : w.heap[n + 1]? = some (.cells [str bX].toArray 9 (0, 0))
  b3 : w.heap[n + 3]? = some (.cells [str bPerson].toArray 9 (0, 0))
  b4 : w.heap[n + 4]? = some (.cells [str bAnn, str bPerson].toArray 73 (0, 0))
  b5 : w.heap[n + 5]? = some (.cells [str bPerson].toArray 9 (0, 0))
  b6 : w.heap[n + 6]? = some (.cells [str bOld, .int .i64 1, sl (n + 5), .slice none 0 0].toArray 132 (0, 0))
  b7 : w.heap[n + 7]? = some (.cells [str bAct, .int .i64 1].toArray 138 (0, 0))
  b9 : w.heap[n + 9]? = some (.cells (ruleW n bv).toArray 97 (0, 0))
structure SmB (n : Nat) (w : World) : Prop where
  b8 : w.heap[n + 8]? = some (.cells (premW n).toArray 123 (0, 0))
def smSt (n : Nat) : St9 := ⟨str [], sl (n + 3), sl (n + 4), sl (n + 6), .slice none 0 0, sl (n + 7), sl (n + 9), .slice none 0 0, .slice none 0 0⟩
theorem SmH.keep {n : Nat} {bv : Value} {w w' : World} (h : SmH n bv w) (hb : ∀ g, g < n + 10 → w'.heap[g]? = w.heap[g]?) : SmH n bv w' :=
  ⟨(hb _ (by omega)).trans h.b1, (hb _ (by omega)).trans h.b3, (hb _ (by omega)).trans h.b4, (hb _ (by omega)).trans h.b5, (hb _ (by omega)).trans h.b6, (hb _ (by omega)).trans h.b7, (hb _ (by omega)).trans h.b9⟩
theorem SmH.lit {n N : Nat} {bv : Value} {w : World} (h : SmH n bv w) (hN : n + 10 ≤ N) : cLit N w litX (litW n) :=
  ⟨sl (n + 1), rfl, by decide, RR.one h.b1 (by omega) rfl (Nat.le_refl _) ⟨rfl, by decide⟩⟩
theorem cGuard_none {N : Nat} {w : World} : cGuard N w ⟨[], 0, []⟩ [.slice none 0 0, .int .i64 0, .slice none 0 0] := ⟨_, _, rfl, RR.none, RR.none⟩
theorem SmH.prem {n N : Nat} {bv : Value} {w : World} (h : SmH n bv w) (hN : n + 10 ≤ N) : cPrem N w prem1 (premW n) :=
  ⟨litW n, _, rfl, h.lit hN, cGuard_none, by decide, by decide⟩
theorem SmH.rep {n N : Nat} {bv : Value} {w : World} {body : List PremM} (h : SmH n bv w) (hN : n + 10 ≤ N) (hb : Prems N w body bv) : SR N w (smallM body) (smSt n) := by
  refine ⟨⟨_, rfl⟩, ?_, ?_, ?_, RR.none, ?_, ?_, RR.none, RR.none⟩
  · exact RR.one h.b3 (by omega) rfl (Nat.le_refl _) ⟨rfl, by decide⟩
  · exact RR.one h.b4 (by omega) rfl (Nat.le_refl _) ⟨rfl, by decide, by decide⟩
  · exact RR.one h.b6 (by omega) rfl (Nat.le_refl _) ⟨_, _, rfl, by decide, RR.one h.b5 (by omega) rfl (Nat.le_refl _) ⟨rfl, by decide⟩, RR.none⟩
  · exact RR.one h.b7 (by omega) rfl (Nat.le_refl _) ⟨rfl, by decide⟩
  · exact RR.one h.b9 (by omega) rfl (Nat.le_refl _) ⟨bv, litW n, rfl, (by decide : [(114 : UInt8)].length ≤ maxLen), (by decide : bAct.length ≤ maxLen), hb, h.lit hN⟩
/-- A row of the call's own may be read. -/
theorem RR.of_owns {α : Type} {N k : Nat} {c : World → α → List Value → Prop} {w : World} {l : List α} {v : Value} {e : TypeId} {xs : List Value} (h : w.ownsRow 0 e k v l.length xs) (hN : w.heap.size ≤ N) (hl : l.length ≤ 140737488351232) (hc : ∀ i x, l[i]? = some x → c w x ((xs.drop (i * k)).take k)) : RR N k c w l v := by
  obtain ⟨h1, h2⟩ := h
  rcases h2 with ⟨rfl, h0⟩ | ⟨g, cap, cur, rfl, _, hg, hcap, _, hcs, htk⟩
  · have : l = [] := List.eq_nil_of_length_eq_zero h0
    subst this
    exact RR.none
  · refine ⟨_, cap, rfl, hcap, hl, fun i x hi => ⟨g, 0, (xs.drop (i * k)).take k, rfl, Nat.lt_of_lt_of_le (loc_lt hg) hN, ?_, ?_, hc i x hi⟩⟩
    · have hil : i < l.length := by
        apply Classical.byContradiction
        intro hn
        rw [List.getElem?_eq_none (by omega)] at hi
        cases hi
      have : (i + 1) * k ≤ l.length * k := Nat.mul_le_mul_right k hil
      rw [Nat.add_mul] at this
      simp [h1]
      omega
    · intro j u hu
      rw [List.getElem?_take] at hu
      split at hu
      · rw [List.getElem?_drop, ← htk, List.getElem?_take] at hu
        split at hu
        · rw [Nat.zero_add, cell_of_row w g _ _ _ _ hg, ← Array.getElem?_toList]
          exact hu
        · cases hu
      · cases hu

set_option maxRecDepth 100000 in
set_option maxHeartbeats 3200000 in
theorem lawSmall_any (w : World) : Calls Tryz.prog 67 #[] w fun e w' => e = .returned (smSt w.heap.size).agg ∧ Below w.heap.size w w' ∧ SmH w.heap.size (sl (w.heap.size + 8)) w' ∧ SmB w.heap.size w' ∧ w'.heap.size = w.heap.size + 10 := by
  go_enter Tryz.func67, Tryz.ntmps67
  go_wp2_with fail
  simp [bodyPost, results, Tryz.results67, go_sem]
  refine ⟨⟨rfl, rfl, rfl, rfl, rfl, rfl, rfl, rfl, rfl⟩, ?_, ?_, ?_⟩
  · exact (((((((((((Below.refl _ w).alloc (Nat.le_refl _) _).alloc (by simp) _).alloc (by simp; omega) _).alloc (by simp; omega) _).alloc (by simp; omega) _).alloc (by simp; omega) _).alloc (by simp; omega) _).alloc (by simp; omega) _).alloc (by simp; omega) _).alloc (by simp; omega) _)
  · refine ⟨?_, ?_, ?_, ?_, ?_, ?_, ?_⟩
    · rw [Below.heap_alloc _ _ _ (by simp <;> omega)]; rw [Below.heap_alloc _ _ _ (by simp <;> omega)]; rw [Below.heap_alloc _ _ _ (by simp <;> omega)]; rw [Below.heap_alloc _ _ _ (by simp <;> omega)]; rw [Below.heap_alloc _ _ _ (by simp <;> omega)]; rw [Below.heap_alloc _ _ _ (by simp <;> omega)]; rw [Below.heap_alloc _ _ _ (by simp <;> omega)]; rw [Below.heap_alloc _ _ _ (by simp <;> omega)]; exact heap_at (by simp <;> omega)
    · rw [Below.heap_alloc _ _ _ (by simp <;> omega)]; rw [Below.heap_alloc _ _ _ (by simp <;> omega)]; rw [Below.heap_alloc _ _ _ (by simp <;> omega)]; rw [Below.heap_alloc _ _ _ (by simp <;> omega)]; rw [Below.heap_alloc _ _ _ (by simp <;> omega)]; rw [Below.heap_alloc _ _ _ (by simp <;> omega)]; exact heap_at (by simp <;> omega)
    · rw [Below.heap_alloc _ _ _ (by simp <;> omega)]; rw [Below.heap_alloc _ _ _ (by simp <;> omega)]; rw [Below.heap_alloc _ _ _ (by simp <;> omega)]; rw [Below.heap_alloc _ _ _ (by simp <;> omega)]; rw [Below.heap_alloc _ _ _ (by simp <;> omega)]; exact heap_at (by simp <;> omega)
    · rw [Below.heap_alloc _ _ _ (by simp <;> omega)]; rw [Below.heap_alloc _ _ _ (by simp <;> omega)]; rw [Below.heap_alloc _ _ _ (by simp <;> omega)]; rw [Below.heap_alloc _ _ _ (by simp <;> omega)]; exact heap_at (by simp <;> omega)
    · rw [Below.heap_alloc _ _ _ (by simp <;> omega)]; rw [Below.heap_alloc _ _ _ (by simp <;> omega)]; rw [Below.heap_alloc _ _ _ (by simp <;> omega)]; exact heap_at (by simp <;> omega)
    · rw [Below.heap_alloc _ _ _ (by simp <;> omega)]; rw [Below.heap_alloc _ _ _ (by simp <;> omega)]; exact heap_at (by simp <;> omega)
    · exact heap_at (by simp <;> omega)
  · constructor; rw [Below.heap_alloc _ _ _ (by simp <;> omega)]; exact heap_at (by simp <;> omega)
end Go.Proofs.YtfnobccminhjpaaGreat
