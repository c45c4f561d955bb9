/- The page's ground literal. By program (tools/gen8/rli9.py). -/
import Derived.Test.YtfnobccminhjpaaGreatLitG9
import Derived.Test.YtfnobccminhjpaaGreatLitF9
import Derived.Test.YtfnobccminhjpaaGreatCz9
import Derived.Test.YtfnobccminhjpaaGreatInv9
import Derived.Deep.RegionHeld3
import Derived.Deep.Cut
import Derived.Deep.RegionLaw
import Derived.Deep.AppendLies
namespace Go.Proofs.YtfnobccminhjpaaGreat
open Go.RowKit Go.Shelf Go.Maps Go.WideMaps
open Rg

/-- The three boxes of the page's Literal. -/
structure Lt (A0 A1 A2 : List Value) (w X : World) : Prop where
  low : Below w.heap.size w X
  b0 : X.heap[w.heap.size]? = some (.cells A0.toArray 31 (0, 0))
  b1 : X.heap[w.heap.size + 1]? = some (.cells A1.toArray 59 (0, 0))
  b2 : X.heap[w.heap.size + 2]? = some (.cells A2.toArray 64 (0, 0))
section
variable {A0 A1 A2 V : List Value} {w X Y : World}
theorem Lt.three : Lt A0 A1 A2 w (((w.alloc (.cells A0.toArray 31)).alloc (.cells A1.toArray 59)).alloc (.cells A2.toArray 64)) := by
  obtain ⟨h1, h2, h3⟩ := two_boxes9 w (.cells A0.toArray 31) (.cells A1.toArray 59)
  have hs : ((w.alloc (.cells A0.toArray 31)).alloc (.cells A1.toArray 59)).heap.size = w.heap.size + 2 := by simp
  generalize (w.alloc (.cells A0.toArray 31)).alloc (.cells A1.toArray 59) = X at *
  have h4 := heap_alloc_new X (.cells A2.toArray 64)
  rw [hs] at h4
  exact ⟨h1.alloc (by omega) _, (Below.heap_alloc _ _ _ (by omega)).trans h2, (Below.heap_alloc _ _ _ (by omega)).trans h3, h4⟩
theorem Lt.big (h : Lt A0 A1 A2 w X) : w.heap.size + 3 ≤ X.heap.size := loc_lt h.b2
theorem Lt.call (h : Lt A0 A1 A2 w X) (hb : Below X.heap.size X Y) : Lt A0 A1 A2 w Y :=
  ⟨h.low.trans (hb.mono h.low.size), (hb.block _ (loc_lt h.b0)).trans h.b0, (hb.block _ (loc_lt h.b1)).trans h.b1, (hb.block _ (loc_lt h.b2)).trans h.b2⟩
theorem Lt.zero (h : Lt A0 A1 A2 w X) (hA : A2.length = V.length) : (setAll X (w.heap.size + 2) 0 V).heap[w.heap.size + 2]? = some (.cells V.toArray 64 (0, 0)) ∧ Below w.heap.size w (setAll X (w.heap.size + 2) 0 V) :=
  ⟨by have e := setArr_all (pre := []) hA; simp only [List.nil_append, List.length_nil] at e; rw [setAll_same h.b2, e], setAll_below (by omega) h.low⟩
end
/-- Behind i arguments: what stands in memory, and what is left to ask. -/
structure Lo (A0 A1 A2 PVl : List Value) (P O : Nat) (l : LitM) (ip : Nat) (C : Ctx) (kinds : List Bytes) (o1 : Er (List Nat)) (w : World) (i : Nat) (a0 : Option Addr) (c0 : Nat) (wr : World) : Prop where
  lt : Lt A0 A1 A2 w wr
  bp : wr.heap[P]? = some (.cells PVl.toArray 132 (0, 0))
  bo : wr.heap[O]? = some (.cells #[.bool l.neg, .int .i64 ip, .slice a0 i c0, .int .i64 l.value, .int .i64 0] 64 (0, 0))
  row : wr.ownsRow w.heap.size 3 1 (.slice a0 i c0) i (nats ((l.args.take i).map (posB C.people)))
  eq : argsGM C ((l.args.take i).map (posB C.people)) (l.args.drop i) (kinds.drop i) = o1
  ne : w.heap.size + 3 ≤ P ∧ P < O
theorem Lo.call {A0 A1 A2 PVl : List Value} {P O : Nat} {l : LitM} {ip : Nat} {C : Ctx} {kinds : List Bytes} {o1 : Er (List Nat)} {w : World} {i : Nat} {a0 : Option Addr} {c0 : Nat} {wr wx : World} (h : Lo A0 A1 A2 PVl P O l ip C kinds o1 w i a0 c0 wr) (hb : Below wr.heap.size wr wx) : Lo A0 A1 A2 PVl P O l ip C kinds o1 w i a0 c0 wx :=
  ⟨h.lt.call hb, (hb.block _ (loc_lt h.bp)).trans h.bp, (hb.block _ (loc_lt h.bo)).trans h.bo, owns_keep h.row fun g hg => hb.block g (owns_lt h.row hg), h.eq, h.ne⟩
theorem Lo.step {A0 A1 A2 PVl : List Value} {P O : Nat} {l : LitM} {ip : Nat} {C : Ctx} {kinds : List Bytes} {o1 : Er (List Nat)} {w : World} {i : Nat} {a0 : Option Addr} {c0 : Nat} {w6 wm w8 : World} {s : Bytes} {gg cap : Nat} (h : Lo A0 A1 A2 PVl P O l ip C kinds o1 w i a0 c0 w6) (hb : Below w6.heap.size w6 wm) (ht : l.args.take (i + 1) = l.args.take i ++ [s])
    (hown : w8.ownsRow w.heap.size 3 1 (.slice (some ⟨gg, 0, none⟩) (i + 1) cap) (i + 1) (nats ((l.args.take i).map (posB C.people)) ++ [.int .i64 (posB C.people s)])) (hg : ((Value.slice a0 i c0).ownBlock = some gg ∧ wm.grownBy w8 (some gg)) ∨ (gg = wm.heap.size ∧ wm.grownBy w8 none))
    (heq : argsGM C ((l.args.take i).map (posB C.people) ++ [posB C.people s]) (l.args.drop (i + 1)) (kinds.drop (i + 1)) = o1) : Lo A0 A1 A2 PVl P O l ip C kinds o1 w (i + 1) (some ⟨gg, 0, none⟩) cap (w8.setCell ⟨O, 2, none⟩ (.slice (some ⟨gg, 0, none⟩) (i + 1) cap)) := by
  have hm := h.call hb
  have hrow := owns_down' hm.row (Nat.zero_le _)
  have far : ∀ q, q < wm.heap.size → (Value.slice a0 i c0).ownBlock ≠ some q → w8.heap[q]? = wm.heap[q]? := fun q hq hn => by
    rcases hg with ⟨h1, h2⟩ | ⟨_, h2⟩
    · exact h2.block q hq (fun e => hn (by rw [h1, e]))
    · exact h2.block q hq (by simp)
  have hf : Fr (fun k => w.heap.size ≤ k) wm w8 := by
    rcases hg with ⟨h1, h2⟩ | ⟨_, h2⟩
    · exact .of_grown h2 fun k e => by cases e; exact (hm.row.lt _ h1).1
    · exact .of_grown h2 fun k e => by cases e
  have hOl := loc_lt hm.bo
  obtain ⟨hn1, hn2⟩ := h.ne
  have o0 := own_ne hrow hm.lt.b0 (by decide)
  have o1' := own_ne hrow hm.lt.b1 (by decide)
  have o2 := own_ne hrow hm.lt.b2 (by decide)
  have o3 := own_ne hrow hm.bp (by decide)
  have o4 := own_ne hrow hm.bo (by decide)
  have get : ∀ q, q ≠ O → q < wm.heap.size → (Value.slice a0 i c0).ownBlock ≠ some q → (w8.setCell ⟨O, 2, none⟩ (.slice (some ⟨gg, 0, none⟩) (i + 1) cap)).heap[q]? = wm.heap[q]? := fun q h1 h2 h3 => (heap_setCell_other w8 ⟨O, 2, none⟩ q _ h1).trans (far q h2 h3)
  have hlow := hm.lt.low.size
  refine ⟨⟨?_, (get _ (by omega) (loc_lt hm.lt.b0) o0).trans hm.lt.b0, (get _ (by omega) (loc_lt hm.lt.b1) o1').trans hm.lt.b1, (get _ (by omega) (loc_lt hm.lt.b2) o2).trans hm.lt.b2⟩, (get _ (by omega) (loc_lt hm.bp) o3).trans hm.bp, ?_, ?_, ?_, h.ne⟩
  · exact (hm.lt.low.trans (hf.below fun k hk => ⟨by omega, by omega⟩)).setCell (p := ⟨O, 2, none⟩) (by show w.heap.size ≤ O; omega) _
  · exact loc_set ((far O hOl o4).trans hm.bo)
  · have e : nats ((l.args.take (i + 1)).map (posB C.people)) = nats ((l.args.take i).map (posB C.people)) ++ [.int .i64 (posB C.people s)] := by rw [ht]; simp [nats]
    rw [e]
    refine owns_keep hown fun g hg9 => ?_
    simp only [Value.ownBlock, Option.some.injEq] at hg9
    subst hg9
    refine heap_setCell_other w8 ⟨O, 2, none⟩ gg _ ?_
    show gg ≠ O
    rcases hg with ⟨h1, _⟩ | ⟨h1, _⟩
    · intro e2
      exact o4 (by rw [h1, e2])
    · omega
  · rw [ht, List.map_append]
    exact heq
/-- The region's values that do not hang on its order. -/
def tab22 (H O i : Nat) (a0 : Option Addr) (c0 : Nat) (SVa : Value) (g oo n ac : Nat) (s : Bytes) (pos : Nat) : Nat → Option (Nat × Value)
  | 0 => some (88, .pointer (some ⟨O, 1, none⟩))
  | 1 => some (89, .pointer (some ⟨O, 2, none⟩))
  | 2 => some (90, .slice a0 i c0)
  | 3 => some (91, SVa)
  | 5 => some (93, .pointer (some ⟨H + 1, 2, none⟩))
  | 6 => some (94, .slice (some ⟨g, oo, none⟩) n ac)
  | 7 => some (95, .int .i64 i)
  | 8 => some (96, .pointer (some ⟨g, oo + i, none⟩))
  | 9 => some (97, .string ⟨s.toArray⟩)
  | 10 => some (98, .int .i64 pos)
  | 13 => some (101, .pointer (some ⟨O, 1, none⟩))
  | 14 => some (102, .pointer (some ⟨O, 2, none⟩))
  | _ => none
def A22 (w6 : World) (m : Nat) (ppl : List Bytes) (pos : Nat) (L : Nat → Bool) (σ : Nat → Value) (W : World) : Prop :=
  Below w6.drew.heap.size w6.drew W ∧ (L 4 = true → ∃ xa xc, σ 92 = .slice xa m xc ∧ At1 W xa (strs ppl)) ∧ (L 11 = true → ∃ q, σ 99 = .slice (some ⟨q, 0, none⟩) 1 1 ∧ W.heap[q]? = some (.cells #[.int .i64 pos] 3 (0, 0)))
def B22 (w w6 : World) (O i : Nat) (a0 : Option Addr) (c0 : Nat) (ms : List Nat) (pos : Nat) (L : Nat → Bool) (σ : Nat → Value) (W : World) : Prop :=
  ∃ gg cap wm W8, Below w6.drew.heap.size w6.drew wm ∧ W8.ownsRow w.heap.size 3 1 (.slice (some ⟨gg, 0, none⟩) (i + 1) cap) (i + 1) (nats ms ++ [.int .i64 pos]) ∧ (((Value.slice a0 i c0).ownBlock = some gg ∧ wm.grownBy W8 (some gg)) ∨ (gg = wm.heap.size ∧ wm.grownBy W8 none)) ∧ σ 100 = .slice (some ⟨gg, 0, none⟩) (i + 1) cap ∧ W = (if L 15 = true then W8.setCell ⟨O, 2, none⟩ (.slice (some ⟨gg, 0, none⟩) (i + 1) cap) else W8)
theorem A22.go {w6 : World} {m : Nat} {ppl : List Bytes} {pos : Nat} {L L' : Nat → Bool} {σ σ' : Nat → Value} {W : World} (h : A22 w6 m ppl pos L σ W) (h4 : L' 4 = L 4) (h11 : L' 11 = L 11) (e92 : σ' 92 = σ 92) (e99 : σ' 99 = σ 99) : A22 w6 m ppl pos L' σ' W :=
  ⟨h.1, fun e => by rw [e92]; exact h.2.1 (by rw [← h4]; exact e), fun e => by rw [e99]; exact h.2.2 (by rw [← h11]; exact e)⟩
theorem B22.go {w w6 : World} {O i : Nat} {a0 : Option Addr} {c0 : Nat} {ms : List Nat} {pos : Nat} {L L' : Nat → Bool} {σ σ' : Nat → Value} {W : World} (h : B22 w w6 O i a0 c0 ms pos L σ W) (h15 : L' 15 = L 15) (e100 : σ' 100 = σ 100) : B22 w w6 O i a0 c0 ms pos L' σ' W := by
  obtain ⟨gg, cap, wm, W8, h1, h2, h3, h4, h5⟩ := h
  exact ⟨gg, cap, wm, W8, h1, h2, h3, by rw [e100]; exact h4, by rw [h15]; exact h5⟩
theorem tab22_inj {H O i : Nat} {a0 : Option Addr} {c0 : Nat} {SVa : Value} {g oo n ac : Nat} {s : Bytes} {pos : Nat} {j j' d : Nat} {v v' : Value} (h : tab22 H O i a0 c0 SVa g oo n ac s pos j = some (d, v)) (h' : tab22 H O i a0 c0 SVa g oo n ac s pos j' = some (d, v')) : j' = j := by
  unfold tab22 at h h'
  split at h <;> cases h <;> (split at h' <;> first | rfl | (cases h'))
theorem tab22_off {H O i : Nat} {a0 : Option Addr} {c0 : Nat} {SVa : Value} {g oo n ac : Nat} {s : Bytes} {pos : Nat} {j d : Nat} {v : Value} (h : tab22 H O i a0 c0 SVa g oo n ac s pos j = some (d, v)) : d ≠ 92 ∧ d ≠ 99 ∧ d ≠ 100 := by
  unfold tab22 at h
  split at h <;> cases h <;> decide
theorem arg1_in {C : Ctx} {s k : Bytes} (hv : isVarB s = false) : ∀ v2, arg1M C [] s k = .ok v2 → s ∈ C.people := by
  intro v2 h
  rw [arg1_const hv] at h
  unfold findMemberM findM at h
  cases hn : wantM (isNameB s) 71 with
  | error c => rw [hn] at h; cases h
  | ok u =>
    rw [hn] at h
    by_cases hm : s ∈ C.people
    · exact hm
    · change ((wantM (decide (s ∈ C.people)) 82 >>= fun _ => .ok (posB C.people s)) >>= _) = _ at h
      rw [want_f (decide_eq_false hm)] at h
      cases h
theorem lit_none {C : Ctx} {l : LitM} {c : Int} (h : findPredM C l.pred = .error c) : literalGM C l = .error c := by unfold literalGM; rw [h]; rfl
theorem lit_sort {C : Ctx} {l : LitM} {p : PredM} (h : findPredM C l.pred = .ok p) (hs : p.sort = 2) : literalGM C l = .error 84 := by
  unfold literalGM
  rw [h]
  show (wantM (!decide (p.sort = 2)) 84 >>= _) = _
  rw [want_f (by rw [decide_eq_true hs]; rfl)]
  rfl
theorem lit_err {C : Ctx} {l : LitM} {p : PredM} {c : Int} (h : findPredM C l.pred = .ok p) (hs : p.sort ≠ 2) (ha : argumentsGM C p l.args = .error c) : literalGM C l = .error c := by
  unfold literalGM
  rw [h]
  show (wantM (!decide (p.sort = 2)) 84 >>= _) = _
  rw [want_t (by rw [decide_eq_false hs]; rfl)]
  show (argumentsGM C p l.args >>= _) = _
  rw [ha]
  rfl
theorem args_len {C : Ctx} {p : PredM} {l : List Bytes} (h : ¬ l.length = p.kinds.length) : argumentsGM C p l = .error 83 := by
  unfold argumentsGM
  rw [want_f (decide_eq_false (by omega))]
  rfl
theorem args_same {C : Ctx} {p : PredM} {l : List Bytes} (h : l.length = p.kinds.length) : argumentsGM C p l = argsGM C [] l p.kinds := by
  unfold argumentsGM
  rw [want_t (decide_eq_true (by omega))]
  rfl
set_option maxRecDepth 100000 in
set_option maxHeartbeats 12800000 in
theorem rliteral_q {S : StatM} {st : St9} {w : World} (h : SR w.heap.size w S st) (l : LitM) {aa : Option Addr} {ac : Nat} (hll : Strs w.heap.size w l.args (.slice aa l.args.length ac)) (Q : Ending → World → Prop)
    (hbad : ∀ c w', Below w.heap.size w w' → ((checkM S).1 ≠ 0 ∧ c = (checkM S).1 ∨ (checkM S).1 = 0 ∧ literalGM S.ctx l = .error c) → Q (.returned (.tuple #[.agg #[.bool false, .int .i64 0, .slice none 0 0, .int .i64 0, .int .i64 0], .int .i64 c])) w')
    (hgood : ∀ ms a c w', Below w.heap.size w w' → (checkM S).1 = 0 → literalGM S.ctx l = .ok ms → w'.ownsRow w.heap.size 3 1 (.slice a ms.length c) ms.length (nats ms) → Q (.returned (.tuple #[.agg #[.bool l.neg, .int .i64 (posB S.ctx.names l.pred), .slice a ms.length c, .int .i64 l.value, .int .i64 0], .int .i64 0])) w') :
    Calls Tryz.prog 37 #[st.agg, .agg #[.bool l.neg, .string ⟨l.pred.toArray⟩, .slice aa l.args.length ac, .bool l.hasValue, .int .i64 l.value]] w Q := by
  obtain ⟨tt, ht⟩ := h.title
  obtain ⟨a1, b1, f1, _, _⟩ := h.kinds.form
  obtain ⟨a2, b2, f2, _, _⟩ := h.members.form
  obtain ⟨a3, b3, f3, _, _⟩ := h.preds.form
  obtain ⟨a4, b4, f4, _, _⟩ := h.classes.form
  obtain ⟨a5, b5, f5, _, _⟩ := h.sources.form
  obtain ⟨a6, b6, f6, _, _⟩ := h.rules.form
  obtain ⟨a7, b7, f7, _, _⟩ := h.excepts.form
  obtain ⟨a8, b8, f8, _, _⟩ := h.totals.form
  obtain ⟨s0, s1, s2, s3, s4, s5, s6, s7, s8⟩ := st
  simp only at ht f1 f2 f3 f4 f5 f6 f7 f8
  subst ht f1 f2 f3 f4 f5 f6 f7 f8
  have HS := hide h
  have HLL := hide hll
  have HBAD := hide hbad
  have HGOOD := hide hgood
  have L0 := hide (Lt.three (A0 := [.string tt, .slice a1 S.kinds.length b1, .slice a2 S.members.length b2, .slice a3 S.preds.length b3, .slice a4 S.classes.length b4, .slice a5 S.sources.length b5, .slice a6 S.rules.length b6, .slice a7 S.excepts.length b7, .slice a8 S.totals.length b8]) (A1 := [.bool l.neg, .string ⟨l.pred.toArray⟩, .slice aa l.args.length ac, .bool l.hasValue, .int .i64 l.value]) (A2 := [.bool false, .int .i64 0, .slice none 0 0, .int .i64 0, .int .i64 0]) (w := w))
  clear h hll hbad hgood
  show Calls Tryz.prog 37 #[.agg #[.string tt, .slice a1 S.kinds.length b1, .slice a2 S.members.length b2, .slice a3 S.preds.length b3, .slice a4 S.classes.length b4, .slice a5 S.sources.length b5, .slice a6 S.rules.length b6, .slice a7 S.excepts.length b7, .slice a8 S.totals.length b8], .agg #[.bool l.neg, .string ⟨l.pred.toArray⟩, .slice aa l.args.length ac, .bool l.hasValue, .int .i64 l.value]] w Q
  go_enter Tryz.func37, Tryz.ntmps37
  go_upto_region 1 with fail
  generalize ((w.alloc (.cells #[.string tt, .slice a1 S.kinds.length b1, .slice a2 S.members.length b2, .slice a3 S.preds.length b3, .slice a4 S.classes.length b4, .slice a5 S.sources.length b5, .slice a6 S.rules.length b6, .slice a7 S.excepts.length b7, .slice a8 S.totals.length b8] 31)).alloc (.cells #[.bool l.neg, .string ⟨l.pred.toArray⟩, .slice aa l.args.length ac, .bool l.hasValue, .int .i64 l.value] 59)).alloc (.cells #[.bool false, .int .i64 0, .slice none 0 0, .int .i64 0, .int .i64 0] 64) = X0 at *
  have c0 := cell_of_row X0 _ 0 _ _ _ L0.out.b0
  have c1 := cell_of_row X0 _ 1 _ _ _ L0.out.b0
  have c2 := cell_of_row X0 _ 2 _ _ _ L0.out.b0
  have c3 := cell_of_row X0 _ 3 _ _ _ L0.out.b0
  have c4 := cell_of_row X0 _ 4 _ _ _ L0.out.b0
  have c5 := cell_of_row X0 _ 5 _ _ _ L0.out.b0
  have c6 := cell_of_row X0 _ 6 _ _ _ L0.out.b0
  have c7 := cell_of_row X0 _ 7 _ _ _ L0.out.b0
  have c8 := cell_of_row X0 _ 8 _ _ _ L0.out.b0
  simp only [List.getElem?_toArray, List.getElem?_cons_zero, List.getElem?_cons_succ] at c0 c1 c2 c3 c4 c5 c6 c7 c8
  have CK := hide (rcheck_any (SR.go L0.out.low HS.out))
  unfold St9.agg at CK
  simp only at CK
  go_upto_region 2 with (go_at_call 9; refine CK.out.mono ?_; rintro e X1 ⟨rfl, hb1⟩)
  have L1 := hide (L0.out.call hb1)
  clear hb1 CK L0 c0 c1 c2 c3 c4 c5 c6 c7 c8
  obtain ⟨c, hc⟩ : ∃ c, (checkM S).1 = c := ⟨_, rfl⟩
  have HC := hide hc
  rw [hc]
  clear hc
  generalize (checkM S).2 = at9
  by_cases hc0 : c = 0
  case neg =>
    have hcb : (c == 0) = false := beq_eq_false_iff_ne.2 hc0
    have HC0 : Hid (c ≠ 0) := hide hc0
    clear hc0
    have e0 := cell_of_row X1 _ 0 _ _ _ L1.out.b2
    have e1 := cell_of_row X1 _ 1 _ _ _ L1.out.b2
    have e2 := cell_of_row X1 _ 2 _ _ _ L1.out.b2
    have e3 := cell_of_row X1 _ 3 _ _ _ L1.out.b2
    have e4 := cell_of_row X1 _ 4 _ _ _ L1.out.b2
    simp only [List.getElem?_toArray, List.getElem?_cons_zero, List.getElem?_cons_succ] at e0 e1 e2 e3 e4
    have g0 := frozen_of_row X1 _ 0 _ _ L1.out.b2
    have g1 := frozen_of_row X1 _ 1 _ _ L1.out.b2
    have g2 := frozen_of_row X1 _ 2 _ _ L1.out.b2
    have g3 := frozen_of_row X1 _ 3 _ _ L1.out.b2
    have g4 := frozen_of_row X1 _ 4 _ _ L1.out.b2
    have HY := hide (Lt.zero L1.out (V := [.bool false, .int .i64 0, .slice none 0 0, .int .i64 0, .int .i64 0]) rfl)
    simp only [setAll] at HY
    go_wp2_with fail
    generalize (((((X1).setCell ⟨w.heap.size + 2, 0, none⟩ (.bool false)).setCell ⟨w.heap.size + 2, 1, none⟩ (.int .i64 0)).setCell ⟨w.heap.size + 2, 2, none⟩ (.slice none 0 0)).setCell ⟨w.heap.size + 2, 3, none⟩ (.int .i64 0)).setCell ⟨w.heap.size + 2, 4, none⟩ (.int .i64 0) = Y at *
    obtain ⟨hY, hbe⟩ := HY.out
    have z0 := cell_of_row Y _ 0 _ _ _ hY
    have z1 := cell_of_row Y _ 1 _ _ _ hY
    have z2 := cell_of_row Y _ 2 _ _ _ hY
    have z3 := cell_of_row Y _ 3 _ _ _ hY
    have z4 := cell_of_row Y _ 4 _ _ _ hY
    simp only [List.getElem?_toArray, List.getElem?_cons_zero, List.getElem?_cons_succ] at z0 z1 z2 z3 z4
    simp [bodyPost, results, Tryz.results37, go_sem, z0, z1, z2, z3, z4]
    exact HBAD.out _ Y hbe (.inl ⟨by rw [HC.out]; exact HC0.out, HC.out.symm⟩)

  subst hc0
  obtain ⟨hfit, hall⟩ := check_ok.1 HC.out
  have HFIT := hide hfit
  obtain ⟨hfk, hfm, hfp, -⟩ := fitB hfit
  have HOK := hide (preds_okS (show AllOk (grp S 2) from by
    obtain ⟨q, hq⟩ := pre8_split S (k := 2) (by omega)
    rw [hq] at hall
    exact fun x hx => hall x (by simp [hx])))
  clear hall hfit
  have HNL : Hid (S.ctx.names.length = S.preds.length) := hide (List.length_map _)
  have HML : Hid (S.ctx.people.length = S.members.length) := hide (List.length_map _)
  go_upto_region 4 with fail
  have FS : Hid (∀ Y, Below X1.heap.size X1 Y → (fun Y : World => Y.cell? ⟨w.heap.size, 0, none⟩ = some (.string tt) ∧ Y.cell? ⟨w.heap.size, 1, none⟩ = some (.slice a1 S.kinds.length b1) ∧ Y.cell? ⟨w.heap.size, 2, none⟩ = some (.slice a2 S.members.length b2) ∧ Y.cell? ⟨w.heap.size, 3, none⟩ = some (.slice a3 S.preds.length b3) ∧ Y.cell? ⟨w.heap.size, 4, none⟩ = some (.slice a4 S.classes.length b4) ∧ Y.cell? ⟨w.heap.size, 5, none⟩ = some (.slice a5 S.sources.length b5) ∧ Y.cell? ⟨w.heap.size, 6, none⟩ = some (.slice a6 S.rules.length b6) ∧ Y.cell? ⟨w.heap.size, 7, none⟩ = some (.slice a7 S.excepts.length b7) ∧ Y.cell? ⟨w.heap.size, 8, none⟩ = some (.slice a8 S.totals.length b8) ∧ Y.cell? ⟨w.heap.size + 1, 0, none⟩ = some (.bool l.neg) ∧ Y.cell? ⟨w.heap.size + 1, 1, none⟩ = some (.string ⟨l.pred.toArray⟩) ∧ Y.cell? ⟨w.heap.size + 1, 2, none⟩ = some (.slice aa l.args.length ac) ∧ Y.cell? ⟨w.heap.size + 1, 3, none⟩ = some (.bool l.hasValue) ∧ Y.cell? ⟨w.heap.size + 1, 4, none⟩ = some (.int .i64 l.value) ∧ Below X1.heap.size X1 Y) Y) := by
    refine hide fun Y hY => ?_
    have q1 := (hY.block _ (loc_lt L1.out.b0)).trans L1.out.b0
    have q2 := (hY.block _ (loc_lt L1.out.b1)).trans L1.out.b1
    exact ⟨cell_of_row Y _ 0 _ _ _ q1, cell_of_row Y _ 1 _ _ _ q1, cell_of_row Y _ 2 _ _ _ q1, cell_of_row Y _ 3 _ _ _ q1, cell_of_row Y _ 4 _ _ _ q1, cell_of_row Y _ 5 _ _ _ q1, cell_of_row Y _ 6 _ _ _ q1, cell_of_row Y _ 7 _ _ _ q1, cell_of_row Y _ 8 _ _ _ q1, cell_of_row Y _ 0 _ _ _ q2, cell_of_row Y _ 1 _ _ _ q2, cell_of_row Y _ 2 _ _ _ q2, cell_of_row Y _ 3 _ _ _ q2, cell_of_row Y _ 4 _ _ _ q2, hY⟩
  have CP := hide (fun Y (hY : (fun Y : World => Y.cell? ⟨w.heap.size, 0, none⟩ = some (.string tt) ∧ Y.cell? ⟨w.heap.size, 1, none⟩ = some (.slice a1 S.kinds.length b1) ∧ Y.cell? ⟨w.heap.size, 2, none⟩ = some (.slice a2 S.members.length b2) ∧ Y.cell? ⟨w.heap.size, 3, none⟩ = some (.slice a3 S.preds.length b3) ∧ Y.cell? ⟨w.heap.size, 4, none⟩ = some (.slice a4 S.classes.length b4) ∧ Y.cell? ⟨w.heap.size, 5, none⟩ = some (.slice a5 S.sources.length b5) ∧ Y.cell? ⟨w.heap.size, 6, none⟩ = some (.slice a6 S.rules.length b6) ∧ Y.cell? ⟨w.heap.size, 7, none⟩ = some (.slice a7 S.excepts.length b7) ∧ Y.cell? ⟨w.heap.size, 8, none⟩ = some (.slice a8 S.totals.length b8) ∧ Y.cell? ⟨w.heap.size + 1, 0, none⟩ = some (.bool l.neg) ∧ Y.cell? ⟨w.heap.size + 1, 1, none⟩ = some (.string ⟨l.pred.toArray⟩) ∧ Y.cell? ⟨w.heap.size + 1, 2, none⟩ = some (.slice aa l.args.length ac) ∧ Y.cell? ⟨w.heap.size + 1, 3, none⟩ = some (.bool l.hasValue) ∧ Y.cell? ⟨w.heap.size + 1, 4, none⟩ = some (.int .i64 l.value) ∧ Below X1.heap.size X1 Y) Y) => rpredsS (SR.go (L1.out.low.trans (hY.2.2.2.2.2.2.2.2.2.2.2.2.2.2.mono L1.out.low.size)) HS.out) (by omega))
  have GS : Hid (∀ Y Y', (fun Y : World => Y.cell? ⟨w.heap.size, 0, none⟩ = some (.string tt) ∧ Y.cell? ⟨w.heap.size, 1, none⟩ = some (.slice a1 S.kinds.length b1) ∧ Y.cell? ⟨w.heap.size, 2, none⟩ = some (.slice a2 S.members.length b2) ∧ Y.cell? ⟨w.heap.size, 3, none⟩ = some (.slice a3 S.preds.length b3) ∧ Y.cell? ⟨w.heap.size, 4, none⟩ = some (.slice a4 S.classes.length b4) ∧ Y.cell? ⟨w.heap.size, 5, none⟩ = some (.slice a5 S.sources.length b5) ∧ Y.cell? ⟨w.heap.size, 6, none⟩ = some (.slice a6 S.rules.length b6) ∧ Y.cell? ⟨w.heap.size, 7, none⟩ = some (.slice a7 S.excepts.length b7) ∧ Y.cell? ⟨w.heap.size, 8, none⟩ = some (.slice a8 S.totals.length b8) ∧ Y.cell? ⟨w.heap.size + 1, 0, none⟩ = some (.bool l.neg) ∧ Y.cell? ⟨w.heap.size + 1, 1, none⟩ = some (.string ⟨l.pred.toArray⟩) ∧ Y.cell? ⟨w.heap.size + 1, 2, none⟩ = some (.slice aa l.args.length ac) ∧ Y.cell? ⟨w.heap.size + 1, 3, none⟩ = some (.bool l.hasValue) ∧ Y.cell? ⟨w.heap.size + 1, 4, none⟩ = some (.int .i64 l.value) ∧ Below X1.heap.size X1 Y) Y → Below Y.heap.size Y Y' → (fun Y : World => Y.cell? ⟨w.heap.size, 0, none⟩ = some (.string tt) ∧ Y.cell? ⟨w.heap.size, 1, none⟩ = some (.slice a1 S.kinds.length b1) ∧ Y.cell? ⟨w.heap.size, 2, none⟩ = some (.slice a2 S.members.length b2) ∧ Y.cell? ⟨w.heap.size, 3, none⟩ = some (.slice a3 S.preds.length b3) ∧ Y.cell? ⟨w.heap.size, 4, none⟩ = some (.slice a4 S.classes.length b4) ∧ Y.cell? ⟨w.heap.size, 5, none⟩ = some (.slice a5 S.sources.length b5) ∧ Y.cell? ⟨w.heap.size, 6, none⟩ = some (.slice a6 S.rules.length b6) ∧ Y.cell? ⟨w.heap.size, 7, none⟩ = some (.slice a7 S.excepts.length b7) ∧ Y.cell? ⟨w.heap.size, 8, none⟩ = some (.slice a8 S.totals.length b8) ∧ Y.cell? ⟨w.heap.size + 1, 0, none⟩ = some (.bool l.neg) ∧ Y.cell? ⟨w.heap.size + 1, 1, none⟩ = some (.string ⟨l.pred.toArray⟩) ∧ Y.cell? ⟨w.heap.size + 1, 2, none⟩ = some (.slice aa l.args.length ac) ∧ Y.cell? ⟨w.heap.size + 1, 3, none⟩ = some (.bool l.hasValue) ∧ Y.cell? ⟨w.heap.size + 1, 4, none⟩ = some (.int .i64 l.value) ∧ Below X1.heap.size X1 Y) Y') := hide fun Y Y' hY hb => FS.out Y' (hY.2.2.2.2.2.2.2.2.2.2.2.2.2.2.trans (hb.mono hY.2.2.2.2.2.2.2.2.2.2.2.2.2.2.size))
  unfold St9.agg at CP
  simp only at CP
  go_region_held3 (fun Y : World => Y.cell? ⟨w.heap.size, 0, none⟩ = some (.string tt) ∧ Y.cell? ⟨w.heap.size, 1, none⟩ = some (.slice a1 S.kinds.length b1) ∧ Y.cell? ⟨w.heap.size, 2, none⟩ = some (.slice a2 S.members.length b2) ∧ Y.cell? ⟨w.heap.size, 3, none⟩ = some (.slice a3 S.preds.length b3) ∧ Y.cell? ⟨w.heap.size, 4, none⟩ = some (.slice a4 S.classes.length b4) ∧ Y.cell? ⟨w.heap.size, 5, none⟩ = some (.slice a5 S.sources.length b5) ∧ Y.cell? ⟨w.heap.size, 6, none⟩ = some (.slice a6 S.rules.length b6) ∧ Y.cell? ⟨w.heap.size, 7, none⟩ = some (.slice a7 S.excepts.length b7) ∧ Y.cell? ⟨w.heap.size, 8, none⟩ = some (.slice a8 S.totals.length b8) ∧ Y.cell? ⟨w.heap.size + 1, 0, none⟩ = some (.bool l.neg) ∧ Y.cell? ⟨w.heap.size + 1, 1, none⟩ = some (.string ⟨l.pred.toArray⟩) ∧ Y.cell? ⟨w.heap.size + 1, 2, none⟩ = some (.slice aa l.args.length ac) ∧ Y.cell? ⟨w.heap.size + 1, 3, none⟩ = some (.bool l.hasValue) ∧ Y.cell? ⟨w.heap.size + 1, 4, none⟩ = some (.int .i64 l.value) ∧ Below X1.heap.size X1 Y) (first | assumption | exact FS.out _ (below_drew X1) | exact GS.out _ _ ‹_› ‹_›) (first | (go_at_call 77; refine (CP.out _ ‹_›).mono ?_; rintro e wa ⟨xa, xc, rfl, hat, hba⟩) | (go_at_call 59; refine (rfindS hat HNL.out (by omega) l.pred).mono ?_; rintro e wx ⟨rfl, hw⟩; subst wx))
  have hbl := (below_drew X1).trans hba
  have L2 := hide (L1.out.call hbl)
  clear hat hba hbl CP GS FS L1
  by_cases hm : l.pred ∈ S.ctx.names
  case neg =>
    rw [findZ_out hm]
    have HE : Hid (literalGM S.ctx l = .error 82) := hide (lit_none (findP_no hm))
    clear hm
    have e0 := cell_of_row wa _ 0 _ _ _ L2.out.b2
    have e1 := cell_of_row wa _ 1 _ _ _ L2.out.b2
    have e2 := cell_of_row wa _ 2 _ _ _ L2.out.b2
    have e3 := cell_of_row wa _ 3 _ _ _ L2.out.b2
    have e4 := cell_of_row wa _ 4 _ _ _ L2.out.b2
    simp only [List.getElem?_toArray, List.getElem?_cons_zero, List.getElem?_cons_succ] at e0 e1 e2 e3 e4
    have g0 := frozen_of_row wa _ 0 _ _ L2.out.b2
    have g1 := frozen_of_row wa _ 1 _ _ L2.out.b2
    have g2 := frozen_of_row wa _ 2 _ _ L2.out.b2
    have g3 := frozen_of_row wa _ 3 _ _ L2.out.b2
    have g4 := frozen_of_row wa _ 4 _ _ L2.out.b2
    have HY := hide (Lt.zero L2.out (V := [.bool false, .int .i64 0, .slice none 0 0, .int .i64 0, .int .i64 0]) rfl)
    simp only [setAll] at HY
    go_wp2_with fail
    generalize (((((wa).setCell ⟨w.heap.size + 2, 0, none⟩ (.bool false)).setCell ⟨w.heap.size + 2, 1, none⟩ (.int .i64 0)).setCell ⟨w.heap.size + 2, 2, none⟩ (.slice none 0 0)).setCell ⟨w.heap.size + 2, 3, none⟩ (.int .i64 0)).setCell ⟨w.heap.size + 2, 4, none⟩ (.int .i64 0) = Y at *
    obtain ⟨hY, hbe⟩ := HY.out
    have z0 := cell_of_row Y _ 0 _ _ _ hY
    have z1 := cell_of_row Y _ 1 _ _ _ hY
    have z2 := cell_of_row Y _ 2 _ _ _ hY
    have z3 := cell_of_row Y _ 3 _ _ _ hY
    have z4 := cell_of_row Y _ 4 _ _ _ hY
    simp only [List.getElem?_toArray, List.getElem?_cons_zero, List.getElem?_cons_succ] at z0 z1 z2 z3 z4
    simp [bodyPost, results, Tryz.results37, go_sem, z0, z1, z2, z3, z4]
    exact HBAD.out _ Y hbe (.inr ⟨HC.out, HE.out⟩)

  rw [findZ_in hm]
  have hpl : posB S.ctx.names l.pred < S.preds.length := by rw [← HNL.out]; exact pos_lt hm
  obtain ⟨p, hp⟩ : ∃ p, S.preds[posB S.ctx.names l.pred]? = some p := ⟨_, List.getElem?_eq_getElem hpl⟩
  have hpd : S.ctx.preds.getD (posB S.ctx.names l.pred) noPred = p := by show S.preds.getD _ noPred = p; rw [List.getD_eq_getElem?_getD, hp]; rfl
  have HFP : Hid (findPredM S.ctx l.pred = .ok p) := hide (by rw [findP_yes hm, hpd])
  obtain ⟨gp, op, ka, kc, va, vc, rfl, hgp, p0, p1, p2, p3, -, hpk, -⟩ := at_P HS.out.preds hp
  have HPO := hide (HOK.out p (List.mem_of_getElem? hp))
  have HPK := hide hpk
  have q0 := (World.cell?_of_block (L2.out.low.block gp hgp)).trans p0
  have q1 := (World.cell?_of_block (L2.out.low.block gp hgp)).trans p1
  have q2 := (World.cell?_of_block (L2.out.low.block gp hgp)).trans p2
  have q3 := (World.cell?_of_block (L2.out.low.block gp hgp)).trans p3
  unfold str at q0
  clear hpd hp hm p0 p1 p2 p3 hpk HNL
  have c0 := cell_of_row wa _ 0 _ _ _ L2.out.b0
  have c1 := cell_of_row wa _ 1 _ _ _ L2.out.b0
  have c2 := cell_of_row wa _ 2 _ _ _ L2.out.b0
  have c3 := cell_of_row wa _ 3 _ _ _ L2.out.b0
  have c4 := cell_of_row wa _ 4 _ _ _ L2.out.b0
  have c5 := cell_of_row wa _ 5 _ _ _ L2.out.b0
  have c6 := cell_of_row wa _ 6 _ _ _ L2.out.b0
  have c7 := cell_of_row wa _ 7 _ _ _ L2.out.b0
  have c8 := cell_of_row wa _ 8 _ _ _ L2.out.b0
  simp only [List.getElem?_toArray, List.getElem?_cons_zero, List.getElem?_cons_succ] at c0 c1 c2 c3 c4 c5 c6 c7 c8
  obtain ⟨ip, hip⟩ : ∃ ip, posB S.ctx.names l.pred = ip := ⟨_, rfl⟩
  rw [hip] at hpl q0 q1 q2 q3 ⊢
  have HIP := hide hip
  clear hip
  go_upto_region 8 with fail
  have hA : Below wa.heap.size wa (wa.alloc (.cells #[.string ⟨p.name.toArray⟩, .int .i64 p.sort, .slice ka p.kinds.length kc, .slice va p.values.length vc] 132)) := (Below.refl _ wa).alloc (Nat.le_refl _) _
  have L3 := hide (L2.out.call hA)
  have HP3 := hide (heap_alloc_new wa (.cells #[.string ⟨p.name.toArray⟩, .int .i64 p.sort, .slice ka p.kinds.length kc, .slice va p.values.length vc] 132))
  have HLP : Hid (w.heap.size + 3 ≤ wa.heap.size) := hide L2.out.big
  clear hA L2 q0 q1 q2 q3 c0 c1 c2 c3 c4 c5 c6 c7 c8
  generalize wa.alloc (.cells #[.string ⟨p.name.toArray⟩, .int .i64 p.sort, .slice ka p.kinds.length kc, .slice va p.values.length vc] 132) = X3 at *
  generalize wa.heap.size = P at *
  have r0 := cell_of_row X3 _ 0 _ _ _ HP3.out
  have r1 := cell_of_row X3 _ 1 _ _ _ HP3.out
  have r2 := cell_of_row X3 _ 2 _ _ _ HP3.out
  have r3 := cell_of_row X3 _ 3 _ _ _ HP3.out
  have d0 := cell_of_row X3 _ 0 _ _ _ L3.out.b1
  have d1 := cell_of_row X3 _ 1 _ _ _ L3.out.b1
  have d2 := cell_of_row X3 _ 2 _ _ _ L3.out.b1
  have d3 := cell_of_row X3 _ 3 _ _ _ L3.out.b1
  have d4 := cell_of_row X3 _ 4 _ _ _ L3.out.b1
  simp only [List.getElem?_toArray, List.getElem?_cons_zero, List.getElem?_cons_succ] at r0 r1 r2 r3 d0 d1 d2 d3 d4
  by_cases hs2 : p.sort = 2
  case pos =>
    have HE : Hid (literalGM S.ctx l = .error 84) := hide (lit_sort HFP.out hs2)
    have hbq : (p.sort == 2) = true := by rw [hs2]; rfl
    clear hs2
    have e0 := cell_of_row X3 _ 0 _ _ _ L3.out.b2
    have e1 := cell_of_row X3 _ 1 _ _ _ L3.out.b2
    have e2 := cell_of_row X3 _ 2 _ _ _ L3.out.b2
    have e3 := cell_of_row X3 _ 3 _ _ _ L3.out.b2
    have e4 := cell_of_row X3 _ 4 _ _ _ L3.out.b2
    simp only [List.getElem?_toArray, List.getElem?_cons_zero, List.getElem?_cons_succ] at e0 e1 e2 e3 e4
    have g0 := frozen_of_row X3 _ 0 _ _ L3.out.b2
    have g1 := frozen_of_row X3 _ 1 _ _ L3.out.b2
    have g2 := frozen_of_row X3 _ 2 _ _ L3.out.b2
    have g3 := frozen_of_row X3 _ 3 _ _ L3.out.b2
    have g4 := frozen_of_row X3 _ 4 _ _ L3.out.b2
    have HY := hide (Lt.zero L3.out (V := [.bool false, .int .i64 0, .slice none 0 0, .int .i64 0, .int .i64 0]) rfl)
    simp only [setAll] at HY
    go_wp2_with fail
    generalize (((((X3).setCell ⟨w.heap.size + 2, 0, none⟩ (.bool false)).setCell ⟨w.heap.size + 2, 1, none⟩ (.int .i64 0)).setCell ⟨w.heap.size + 2, 2, none⟩ (.slice none 0 0)).setCell ⟨w.heap.size + 2, 3, none⟩ (.int .i64 0)).setCell ⟨w.heap.size + 2, 4, none⟩ (.int .i64 0) = Y at *
    obtain ⟨hY, hbe⟩ := HY.out
    have z0 := cell_of_row Y _ 0 _ _ _ hY
    have z1 := cell_of_row Y _ 1 _ _ _ hY
    have z2 := cell_of_row Y _ 2 _ _ _ hY
    have z3 := cell_of_row Y _ 3 _ _ _ hY
    have z4 := cell_of_row Y _ 4 _ _ _ hY
    simp only [List.getElem?_toArray, List.getElem?_cons_zero, List.getElem?_cons_succ] at z0 z1 z2 z3 z4
    simp [bodyPost, results, Tryz.results37, go_sem, z0, z1, z2, z3, z4]
    exact HBAD.out _ Y hbe (.inr ⟨HC.out, HE.out⟩)

  have hbq : (p.sort == 2) = false := beq_eq_false_iff_ne.2 hs2
  have HS2 : Hid (p.sort ≠ 2) := hide hs2
  clear hs2
  by_cases hlk : l.args.length = p.kinds.length
  case neg =>
    have HE : Hid (literalGM S.ctx l = .error 83) := hide (lit_err HFP.out HS2.out (args_len hlk))
    have hbb : ((l.args.length : Int) == (p.kinds.length : Int)) = false := beq_eq_false_iff_ne.2 (by omega)
    clear hlk
    have e0 := cell_of_row X3 _ 0 _ _ _ L3.out.b2
    have e1 := cell_of_row X3 _ 1 _ _ _ L3.out.b2
    have e2 := cell_of_row X3 _ 2 _ _ _ L3.out.b2
    have e3 := cell_of_row X3 _ 3 _ _ _ L3.out.b2
    have e4 := cell_of_row X3 _ 4 _ _ _ L3.out.b2
    simp only [List.getElem?_toArray, List.getElem?_cons_zero, List.getElem?_cons_succ] at e0 e1 e2 e3 e4
    have g0 := frozen_of_row X3 _ 0 _ _ L3.out.b2
    have g1 := frozen_of_row X3 _ 1 _ _ L3.out.b2
    have g2 := frozen_of_row X3 _ 2 _ _ L3.out.b2
    have g3 := frozen_of_row X3 _ 3 _ _ L3.out.b2
    have g4 := frozen_of_row X3 _ 4 _ _ L3.out.b2
    have HY := hide (Lt.zero L3.out (V := [.bool false, .int .i64 0, .slice none 0 0, .int .i64 0, .int .i64 0]) rfl)
    simp only [setAll] at HY
    go_wp2_with fail
    generalize (((((X3).setCell ⟨w.heap.size + 2, 0, none⟩ (.bool false)).setCell ⟨w.heap.size + 2, 1, none⟩ (.int .i64 0)).setCell ⟨w.heap.size + 2, 2, none⟩ (.slice none 0 0)).setCell ⟨w.heap.size + 2, 3, none⟩ (.int .i64 0)).setCell ⟨w.heap.size + 2, 4, none⟩ (.int .i64 0) = Y at *
    obtain ⟨hY, hbe⟩ := HY.out
    have z0 := cell_of_row Y _ 0 _ _ _ hY
    have z1 := cell_of_row Y _ 1 _ _ _ hY
    have z2 := cell_of_row Y _ 2 _ _ _ hY
    have z3 := cell_of_row Y _ 3 _ _ _ hY
    have z4 := cell_of_row Y _ 4 _ _ _ hY
    simp only [List.getElem?_toArray, List.getElem?_cons_zero, List.getElem?_cons_succ] at z0 z1 z2 z3 z4
    simp [bodyPost, results, Tryz.results37, go_sem, z0, z1, z2, z3, z4]
    exact HBAD.out _ Y hbe (.inr ⟨HC.out, HE.out⟩)

  have HLK := hide hlk
  have hbb : ((l.args.length : Int) == (p.kinds.length : Int)) = true := by rw [hlk]; simp
  have HAG : Hid (argumentsGM S.ctx p l.args = argsGM S.ctx [] l.args p.kinds) := hide (args_same hlk)
  have hnb : ((l.args.length : Int) != (p.kinds.length : Int)) = false := by rw [hlk]; simp
  clear hlk
  go_upto_region 13 with fail
  have hA : Below X3.heap.size X3 (X3.alloc (.cells #[.bool l.neg, .int .i64 ip, .slice none 0 0, .int .i64 l.value, .int .i64 0] 64)) := (Below.refl _ X3).alloc (Nat.le_refl _) _
  have L4 := hide (L3.out.call hA)
  have HP4 := hide ((hA.block _ (loc_lt HP3.out)).trans HP3.out)
  have HO4 := hide (heap_alloc_new X3 (.cells #[.bool l.neg, .int .i64 ip, .slice none 0 0, .int .i64 l.value, .int .i64 0] 64))
  have HPL : Hid (P < X3.heap.size) := hide (loc_lt HP3.out)
  clear hA L3 HP3 hbb hbq hnb r0 r1 r2 r3 d0 d1 d2 d3 d4
  generalize X3.alloc (.cells #[.bool l.neg, .int .i64 ip, .slice none 0 0, .int .i64 l.value, .int .i64 0] 64) = X4 at *
  generalize X3.heap.size = O at *
  have LO : Hid (Lo [.string tt, .slice a1 S.kinds.length b1, .slice a2 S.members.length b2, .slice (some ⟨gp, op, none⟩) S.preds.length b3, .slice a4 S.classes.length b4, .slice a5 S.sources.length b5, .slice a6 S.rules.length b6, .slice a7 S.excepts.length b7, .slice a8 S.totals.length b8] [.bool l.neg, .string ⟨l.pred.toArray⟩, .slice aa l.args.length ac, .bool l.hasValue, .int .i64 l.value] [.bool false, .int .i64 0, .slice none 0 0, .int .i64 0, .int .i64 0] [.string ⟨p.name.toArray⟩, .int .i64 p.sort, .slice ka p.kinds.length kc, .slice va p.values.length vc] P O l ip S.ctx p.kinds (argsGM S.ctx [] l.args p.kinds) w 0 none 0 X4) := hide ⟨L4.out, HP4.out, HO4.out, ⟨by simp [nats], .inl ⟨rfl, rfl⟩⟩, rfl, HLP.out, HPL.out⟩
  clear L4 HP4 HO4
  go_wp2_with fail
  go_loopw [11] (fun x wr => ∃ (i : Nat) (a0 : Option Addr) (c0 : Nat), i ≤ l.args.length ∧ x = .int .i64 i ∧ Hid (Lo [.string tt, .slice a1 S.kinds.length b1, .slice a2 S.members.length b2, .slice (some ⟨gp, op, none⟩) S.preds.length b3, .slice a4 S.classes.length b4, .slice a5 S.sources.length b5, .slice a6 S.rules.length b6, .slice a7 S.excepts.length b7, .slice a8 S.totals.length b8] [.bool l.neg, .string ⟨l.pred.toArray⟩, .slice aa l.args.length ac, .bool l.hasValue, .int .i64 l.value] [.bool false, .int .i64 0, .slice none 0 0, .int .i64 0, .int .i64 0] [.string ⟨p.name.toArray⟩, .int .i64 p.sort, .slice ka p.kinds.length kc, .slice va p.values.length vc] P O l ip S.ctx p.kinds (argsGM S.ctx [] l.args p.kinds) w i a0 c0 wr)) (fun x _ => l.args.length - (intOf x).toNat)
  case atStart => exact ⟨0, none, 0, by omega, rfl, LO⟩
  case round =>
    clear LO
    obtain ⟨i, a0, c0, hi, rfl, LO⟩ := hrel
    by_cases hlt : i < l.args.length
    · obtain ⟨s, hs0⟩ : ∃ s, l.args[i]? = some s := ⟨l.args[i], List.getElem?_eq_getElem hlt⟩
      have hik : i < p.kinds.length := by have := HLK.out; omega
      obtain ⟨k, hk0⟩ : ∃ k, p.kinds[i]? = some k := ⟨p.kinds[i]'hik, List.getElem?_eq_getElem _⟩
      obtain ⟨g, oo, rfl, hg, f0, -⟩ := at_S HLL.out hs0
      obtain ⟨g2, o2, rfl, hg2, k0, -⟩ := at_S HPK.out hk0
      have hks : k ∈ S.kinds := HPO.out.2 k (List.mem_of_getElem? hk0)
      have HEQ := LO.out.eq
      rw [drop_c hs0, drop_c hk0] at HEQ
      have HQ2 := hide HEQ
      have HTK := hide (take_snoc hs0)
      have f1 := (World.cell?_of_block (LO.out.lt.low.block g hg)).trans f0
      unfold str at f1 f0 k0
      clear HEQ
      have d0 := cell_of_row wr _ 0 _ _ _ LO.out.lt.b1
      have d1 := cell_of_row wr _ 1 _ _ _ LO.out.lt.b1
      have d2 := cell_of_row wr _ 2 _ _ _ LO.out.lt.b1
      have d3 := cell_of_row wr _ 3 _ _ _ LO.out.lt.b1
      have d4 := cell_of_row wr _ 4 _ _ _ LO.out.lt.b1
      simp only [List.getElem?_toArray, List.getElem?_cons_zero, List.getElem?_cons_succ] at d0 d1 d2 d3 d4
      have CV := hide (rIsVar_any s wr)
      unfold str at CV
      cases hv : isVarB s with
      | true =>
        rw [hv] at CV
        have HE : Hid (literalGM S.ctx l = .error 86) := hide (lit_err HFP.out HS2.out (by rw [HAG.out, ← HQ2.out, argsG_var hv]))
        have L9 := hide LO.out.lt
        have e0 := cell_of_row wr _ 0 _ _ _ L9.out.b2
        have e1 := cell_of_row wr _ 1 _ _ _ L9.out.b2
        have e2 := cell_of_row wr _ 2 _ _ _ L9.out.b2
        have e3 := cell_of_row wr _ 3 _ _ _ L9.out.b2
        have e4 := cell_of_row wr _ 4 _ _ _ L9.out.b2
        simp only [List.getElem?_toArray, List.getElem?_cons_zero, List.getElem?_cons_succ] at e0 e1 e2 e3 e4
        have g0 := frozen_of_row wr _ 0 _ _ L9.out.b2
        have g1 := frozen_of_row wr _ 1 _ _ L9.out.b2
        have g2 := frozen_of_row wr _ 2 _ _ L9.out.b2
        have g3 := frozen_of_row wr _ 3 _ _ L9.out.b2
        have g4 := frozen_of_row wr _ 4 _ _ L9.out.b2
        have HY := hide (Lt.zero L9.out (V := [.bool false, .int .i64 0, .slice none 0 0, .int .i64 0, .int .i64 0]) rfl)
        simp only [setAll] at HY
        go_wp2_with (go_at_call 58; refine CV.out.mono ?_; rintro e wx ⟨rfl, hw⟩; subst wx)
        generalize (((((wr).setCell ⟨w.heap.size + 2, 0, none⟩ (.bool false)).setCell ⟨w.heap.size + 2, 1, none⟩ (.int .i64 0)).setCell ⟨w.heap.size + 2, 2, none⟩ (.slice none 0 0)).setCell ⟨w.heap.size + 2, 3, none⟩ (.int .i64 0)).setCell ⟨w.heap.size + 2, 4, none⟩ (.int .i64 0) = Y at *
        obtain ⟨hY, hbe⟩ := HY.out
        have z0 := cell_of_row Y _ 0 _ _ _ hY
        have z1 := cell_of_row Y _ 1 _ _ _ hY
        have z2 := cell_of_row Y _ 2 _ _ _ hY
        have z3 := cell_of_row Y _ 3 _ _ _ hY
        have z4 := cell_of_row Y _ 4 _ _ _ hY
        simp only [List.getElem?_toArray, List.getElem?_cons_zero, List.getElem?_cons_succ] at z0 z1 z2 z3 z4
        simp [bodyPost, results, Tryz.results37, go_sem, z0, z1, z2, z3, z4]
        exact HBAD.out _ Y hbe (.inr ⟨HC.out, HE.out⟩)

      | false =>
        rw [hv] at CV
        have HQ3 : Hid ((arg1M S.ctx [] s k >>= fun _ => argsGM S.ctx ((l.args.take i).map (posB S.ctx.people) ++ [posB S.ctx.people s]) (l.args.drop (i + 1)) (p.kinds.drop (i + 1))) = argsGM S.ctx [] l.args p.kinds) := hide (by rw [← argsG_step hv]; exact HQ2.out)
        clear HQ2
        go_upto_region 18 with (go_at_call 58; refine CV.out.mono ?_; rintro e wx ⟨rfl, hw⟩; subst wx)
        clear CV
        go_upto_region 19 with fail
        have PK := hide (Pk.start (X := wr) HS.out HFIT.out LO.out.lt.low)
        have hA : Below wr.heap.size wr (wr.alloc (.cells #[.slice none 0 0, .slice none 0 0, .slice none 0 0] 104)) := (Below.refl _ wr).alloc (Nat.le_refl _) _
        have HA5 := hide hA
        clear hA d0 d1 d2 d3 d4
        generalize wr.alloc (.cells #[.slice none 0 0, .slice none 0 0, .slice none 0 0] 104) = X5 at *
        have CA := hide (arg_any (PK.out.below (below_drew X5)) (by omega) s k hks)
        have HNZ := hide (nz_arg1 S.ctx [] s k)
        have FS : Hid (∀ Y, Below wr.heap.size wr Y → (fun Y : World => Y.cell? ⟨w.heap.size, 0, none⟩ = some (.string tt) ∧ Y.cell? ⟨w.heap.size, 1, none⟩ = some (.slice a1 S.kinds.length b1) ∧ Y.cell? ⟨w.heap.size, 2, none⟩ = some (.slice a2 S.members.length b2) ∧ Y.cell? ⟨w.heap.size, 3, none⟩ = some (.slice (some ⟨gp, op, none⟩) S.preds.length b3) ∧ Y.cell? ⟨w.heap.size, 4, none⟩ = some (.slice a4 S.classes.length b4) ∧ Y.cell? ⟨w.heap.size, 5, none⟩ = some (.slice a5 S.sources.length b5) ∧ Y.cell? ⟨w.heap.size, 6, none⟩ = some (.slice a6 S.rules.length b6) ∧ Y.cell? ⟨w.heap.size, 7, none⟩ = some (.slice a7 S.excepts.length b7) ∧ Y.cell? ⟨w.heap.size, 8, none⟩ = some (.slice a8 S.totals.length b8) ∧ Y.cell? ⟨w.heap.size + 1, 0, none⟩ = some (.bool l.neg) ∧ Y.cell? ⟨w.heap.size + 1, 1, none⟩ = some (.string ⟨l.pred.toArray⟩) ∧ Y.cell? ⟨w.heap.size + 1, 2, none⟩ = some (.slice (some ⟨g, oo, none⟩) l.args.length ac) ∧ Y.cell? ⟨w.heap.size + 1, 3, none⟩ = some (.bool l.hasValue) ∧ Y.cell? ⟨w.heap.size + 1, 4, none⟩ = some (.int .i64 l.value) ∧ Y.cell? ⟨P, 0, none⟩ = some (.string ⟨p.name.toArray⟩) ∧ Y.cell? ⟨P, 1, none⟩ = some (.int .i64 p.sort) ∧ Y.cell? ⟨P, 2, none⟩ = some (.slice (some ⟨g2, o2, none⟩) p.kinds.length kc) ∧ Y.cell? ⟨P, 3, none⟩ = some (.slice va p.values.length vc) ∧ Y.cell? ⟨g, oo + i, none⟩ = some (.string ⟨s.toArray⟩) ∧ Y.cell? ⟨g2, o2 + i, none⟩ = some (.string ⟨k.toArray⟩) ∧ Below wr.heap.size wr Y) Y) := by
          refine hide fun Y hY => ?_
          have q1 := (hY.block _ (loc_lt LO.out.lt.b0)).trans LO.out.lt.b0
          have q2 := (hY.block _ (loc_lt LO.out.lt.b1)).trans LO.out.lt.b1
          have q3 := (hY.block _ (loc_lt LO.out.bp)).trans LO.out.bp
          have q4 := LO.out.lt.low.trans (hY.mono LO.out.lt.low.size)
          exact ⟨cell_of_row Y _ 0 _ _ _ q1, cell_of_row Y _ 1 _ _ _ q1, cell_of_row Y _ 2 _ _ _ q1, cell_of_row Y _ 3 _ _ _ q1, cell_of_row Y _ 4 _ _ _ q1, cell_of_row Y _ 5 _ _ _ q1, cell_of_row Y _ 6 _ _ _ q1, cell_of_row Y _ 7 _ _ _ q1, cell_of_row Y _ 8 _ _ _ q1, cell_of_row Y _ 0 _ _ _ q2, cell_of_row Y _ 1 _ _ _ q2, cell_of_row Y _ 2 _ _ _ q2, cell_of_row Y _ 3 _ _ _ q2, cell_of_row Y _ 4 _ _ _ q2, cell_of_row Y _ 0 _ _ _ q3, cell_of_row Y _ 1 _ _ _ q3, cell_of_row Y _ 2 _ _ _ q3, cell_of_row Y _ 3 _ _ _ q3, (World.cell?_of_block (q4.block g hg)).trans f0, (World.cell?_of_block (q4.block g2 hg2)).trans k0, hY⟩
        have HAR : Hid (∀ v2, arg1M S.ctx [] s k = .ok v2 → s ∈ S.ctx.people) := hide (arg1_in hv)
        unfold str St9.agg at CA
        simp only at CA
        generalize arg1M S.ctx [] s k = o1 at *
        have HX5 : Hid (Below wr.heap.size wr X5.drew) := hide (HA5.out.trans ((below_drew X5).mono HA5.out.size))
        have HGG := hide hg
        have F0 := hide f0
        clear hs0 hk0 hg hg2 f0 k0 hks HA5 PK hv
        go_region_held3 (fun Y : World => Y.cell? ⟨w.heap.size, 0, none⟩ = some (.string tt) ∧ Y.cell? ⟨w.heap.size, 1, none⟩ = some (.slice a1 S.kinds.length b1) ∧ Y.cell? ⟨w.heap.size, 2, none⟩ = some (.slice a2 S.members.length b2) ∧ Y.cell? ⟨w.heap.size, 3, none⟩ = some (.slice (some ⟨gp, op, none⟩) S.preds.length b3) ∧ Y.cell? ⟨w.heap.size, 4, none⟩ = some (.slice a4 S.classes.length b4) ∧ Y.cell? ⟨w.heap.size, 5, none⟩ = some (.slice a5 S.sources.length b5) ∧ Y.cell? ⟨w.heap.size, 6, none⟩ = some (.slice a6 S.rules.length b6) ∧ Y.cell? ⟨w.heap.size, 7, none⟩ = some (.slice a7 S.excepts.length b7) ∧ Y.cell? ⟨w.heap.size, 8, none⟩ = some (.slice a8 S.totals.length b8) ∧ Y.cell? ⟨w.heap.size + 1, 0, none⟩ = some (.bool l.neg) ∧ Y.cell? ⟨w.heap.size + 1, 1, none⟩ = some (.string ⟨l.pred.toArray⟩) ∧ Y.cell? ⟨w.heap.size + 1, 2, none⟩ = some (.slice (some ⟨g, oo, none⟩) l.args.length ac) ∧ Y.cell? ⟨w.heap.size + 1, 3, none⟩ = some (.bool l.hasValue) ∧ Y.cell? ⟨w.heap.size + 1, 4, none⟩ = some (.int .i64 l.value) ∧ Y.cell? ⟨P, 0, none⟩ = some (.string ⟨p.name.toArray⟩) ∧ Y.cell? ⟨P, 1, none⟩ = some (.int .i64 p.sort) ∧ Y.cell? ⟨P, 2, none⟩ = some (.slice (some ⟨g2, o2, none⟩) p.kinds.length kc) ∧ Y.cell? ⟨P, 3, none⟩ = some (.slice va p.values.length vc) ∧ Y.cell? ⟨g, oo + i, none⟩ = some (.string ⟨s.toArray⟩) ∧ Y.cell? ⟨g2, o2 + i, none⟩ = some (.string ⟨k.toArray⟩) ∧ Below wr.heap.size wr Y) (first | assumption | exact FS.out _ HX5.out | exact FS.out _ ‹_›) (first | (go_at_call 93; refine CA.out.mono ?_; rintro e w6 ⟨rfl, hf6, hp6⟩; have hb6 : Below wr.heap.size wr w6 := HX5.out.trans (hf6.below fun k hk => ⟨Nat.lt_of_lt_of_le hk HX5.out.size, by omega⟩)))
        generalize hec : erc o1 = z at *
        cases o1 with
        | error c =>
          have hec1 : c = z := hec
          subst hec1
          have HE : Hid (literalGM S.ctx l = .error c) := hide (lit_err HFP.out HS2.out (by rw [HAG.out, ← HQ3.out]; rfl))
          have hcz := HNZ.out c rfl
          have hbc : (c == 0) = false := beq_eq_false_iff_ne.2 hcz
          have L9 := hide (LO.out.lt.call hb6)
          clear hcz hec HQ3 HNZ hp6 hf6 CA FS HX5
          have e0 := cell_of_row w6 _ 0 _ _ _ L9.out.b2
          have e1 := cell_of_row w6 _ 1 _ _ _ L9.out.b2
          have e2 := cell_of_row w6 _ 2 _ _ _ L9.out.b2
          have e3 := cell_of_row w6 _ 3 _ _ _ L9.out.b2
          have e4 := cell_of_row w6 _ 4 _ _ _ L9.out.b2
          simp only [List.getElem?_toArray, List.getElem?_cons_zero, List.getElem?_cons_succ] at e0 e1 e2 e3 e4
          have g0 := frozen_of_row w6 _ 0 _ _ L9.out.b2
          have g1 := frozen_of_row w6 _ 1 _ _ L9.out.b2
          have g2 := frozen_of_row w6 _ 2 _ _ L9.out.b2
          have g3 := frozen_of_row w6 _ 3 _ _ L9.out.b2
          have g4 := frozen_of_row w6 _ 4 _ _ L9.out.b2
          have HY := hide (Lt.zero L9.out (V := [.bool false, .int .i64 0, .slice none 0 0, .int .i64 0, .int .i64 0]) rfl)
          simp only [setAll] at HY
          go_wp2_with fail
          generalize (((((w6).setCell ⟨w.heap.size + 2, 0, none⟩ (.bool false)).setCell ⟨w.heap.size + 2, 1, none⟩ (.int .i64 0)).setCell ⟨w.heap.size + 2, 2, none⟩ (.slice none 0 0)).setCell ⟨w.heap.size + 2, 3, none⟩ (.int .i64 0)).setCell ⟨w.heap.size + 2, 4, none⟩ (.int .i64 0) = Y at *
          obtain ⟨hY, hbe⟩ := HY.out
          have z0 := cell_of_row Y _ 0 _ _ _ hY
          have z1 := cell_of_row Y _ 1 _ _ _ hY
          have z2 := cell_of_row Y _ 2 _ _ _ hY
          have z3 := cell_of_row Y _ 3 _ _ _ hY
          have z4 := cell_of_row Y _ 4 _ _ _ hY
          simp only [List.getElem?_toArray, List.getElem?_cons_zero, List.getElem?_cons_succ] at z0 z1 z2 z3 z4
          simp [bodyPost, results, Tryz.results37, go_sem, z0, z1, z2, z3, z4]
          exact HBAD.out _ Y hbe (.inr ⟨HC.out, HE.out⟩)

        | ok v2 =>
          have hec1 : 0 = z := hec
          subst hec1
          have HSP : Hid (s ∈ S.ctx.people) := hide (HAR.out v2 rfl)
          have LO6 := hide (LO.out.call hb6)
          have HQ4 : Hid (argsGM S.ctx ((l.args.take i).map (posB S.ctx.people) ++ [posB S.ctx.people s]) (l.args.drop (i + 1)) (p.kinds.drop (i + 1)) = argsGM S.ctx [] l.args p.kinds) := HQ3.out
          have f6 := (World.cell?_of_block (LO6.out.lt.low.block g (by have := HGG.out; omega))).trans F0.out
          clear hec HQ3 HNZ hp6 hf6 hb6 CA FS HX5 LO f1
          have y0 := cell_of_row w6 _ 0 _ _ _ LO6.out.lt.b0
          have y1 := cell_of_row w6 _ 1 _ _ _ LO6.out.lt.b0
          have y2 := cell_of_row w6 _ 2 _ _ _ LO6.out.lt.b0
          have y3 := cell_of_row w6 _ 3 _ _ _ LO6.out.lt.b0
          have y4 := cell_of_row w6 _ 4 _ _ _ LO6.out.lt.b0
          have y5 := cell_of_row w6 _ 5 _ _ _ LO6.out.lt.b0
          have y6 := cell_of_row w6 _ 6 _ _ _ LO6.out.lt.b0
          have y7 := cell_of_row w6 _ 7 _ _ _ LO6.out.lt.b0
          have y8 := cell_of_row w6 _ 8 _ _ _ LO6.out.lt.b0
          have d0 := cell_of_row w6 _ 0 _ _ _ LO6.out.lt.b1
          have d1 := cell_of_row w6 _ 1 _ _ _ LO6.out.lt.b1
          have d2 := cell_of_row w6 _ 2 _ _ _ LO6.out.lt.b1
          have d3 := cell_of_row w6 _ 3 _ _ _ LO6.out.lt.b1
          have d4 := cell_of_row w6 _ 4 _ _ _ LO6.out.lt.b1
          have x0 := cell_of_row w6 _ 0 _ _ _ LO6.out.bo
          have x1 := cell_of_row w6 _ 1 _ _ _ LO6.out.bo
          have x2 := cell_of_row w6 _ 2 _ _ _ LO6.out.bo
          have x3 := cell_of_row w6 _ 3 _ _ _ LO6.out.bo
          have x4 := cell_of_row w6 _ 4 _ _ _ LO6.out.bo
          simp only [List.getElem?_toArray, List.getElem?_cons_zero, List.getElem?_cons_succ] at y0 y1 y2 y3 y4 y5 y6 y7 y8 d0 d1 d2 d3 d4 x0 x1 x2 x3 x4
          have g2' := frozen_of_row w6 _ 2 _ _ LO6.out.bo
          go_upto_region 22 with fail
          have CM := hide (rmembersS (SR.go (LO6.out.lt.low.trans ((below_drew w6).mono LO6.out.lt.low.size)) HS.out) (by omega))
          unfold St9.agg at CM
          simp only at CM
          have HMS := hide (show s ∈ S.ctx.people from HSP.out)
          obtain ⟨iM, hiM, zM0, zM1, zM2⟩ := info_parts' infoI
          generalize hps : posB S.ctx.people s = pos at *
          have hiv : i + 1 ≤ 4 := by have := HPO.out.1; omega
          refine region_j NoE (Jr (tab22 w.heap.size O i a0 c0 (.agg #[.string tt, .slice a1 S.kinds.length b1, .slice a2 S.members.length b2, .slice (some ⟨gp, op, none⟩) S.preds.length b3, .slice a4 S.classes.length b4, .slice a5 S.sources.length b5, .slice a6 S.rules.length b6, .slice a7 S.excepts.length b7, .slice a8 S.totals.length b8]) g oo l.args.length ac s pos) [(2, ptr w.heap.size), (3, ptr (w.heap.size + 1)), (10, ptr O), (11, .int .i64 i)] 12 (A22 w6 S.members.length S.ctx.people pos) (B22 w w6 O i a0 c0 ((l.args.take i).map (posB S.ctx.people)) pos)) (by kernel_rfl) (by kernel_rfl) ?_ (steps_j ⟨?_, ?_, ?_, ?_, ?_, ?_, ?_, ?_, ?_, ?_, ?_, ?_, ?_, ?_, ?_, ?_, trivial⟩) ?_ ?_
          · refine ⟨fun p hp => ?_, fun j d v _ e => by (cases e), fun _ => ⟨Below.refl _ _, fun e => by (cases e), fun e => by (cases e)⟩, fun e => by (cases e)⟩
            simp only [List.mem_cons, List.not_mem_nil, or_false] at hp
            rcases hp with rfl | rfl | rfl | rfl <;> rfl
          · intro ρ W L hc hf hL hd hcl hJ
            have k10 : ρ (.tmp 10) = ptr O := hJ.base (10, ptr O) (by simp)
            refine does_value (v := .pointer (some ⟨O, 1, none⟩)) (w' := W) ?_ (hJ.pure rfl (fun j d v h e => by subst e; exact (tab22_inj (rfl : (tab22 w.heap.size O i a0 c0 (.agg #[.string tt, .slice a1 S.kinds.length b1, .slice a2 S.members.length b2, .slice (some ⟨gp, op, none⟩) S.preds.length b3, .slice a4 S.classes.length b4, .slice a5 S.sources.length b5, .slice a6 S.rules.length b6, .slice a7 S.excepts.length b7, .slice a8 S.totals.length b8]) g oo l.args.length ac s pos) 0 = some (88, _)) h)) (by simp) (by decide) (fun h => A22.go h (more_off (by decide)) (more_off (by decide)) (laid_ne (by simp)) (laid_ne (by simp))) (fun h => B22.go h (more_off (by decide)) (laid_ne (by simp))))
            clear hc hf hL hd hcl hJ
            go_simp
          · intro ρ W L hc hf hL hd hcl hJ
            have k88 : ρ (.tmp 88) = .pointer (some ⟨O, 1, none⟩) := (hJ.vals 0 88 _ rfl (hd ⟨0, .data⟩ (by simp) rfl))
            refine does_value (v := .pointer (some ⟨O, 2, none⟩)) (w' := W) ?_ (hJ.pure rfl (fun j d v h e => by subst e; exact (tab22_inj (rfl : (tab22 w.heap.size O i a0 c0 (.agg #[.string tt, .slice a1 S.kinds.length b1, .slice a2 S.members.length b2, .slice (some ⟨gp, op, none⟩) S.preds.length b3, .slice a4 S.classes.length b4, .slice a5 S.sources.length b5, .slice a6 S.rules.length b6, .slice a7 S.excepts.length b7, .slice a8 S.totals.length b8]) g oo l.args.length ac s pos) 1 = some (89, _)) h)) (by simp) (by decide) (fun h => A22.go h (more_off (by decide)) (more_off (by decide)) (laid_ne (by simp)) (laid_ne (by simp))) (fun h => B22.go h (more_off (by decide)) (laid_ne (by simp))))
            clear hc hf hL hd hcl hJ
            go_simp
          · intro ρ W L hc hf hL hd hcl hJ
            have k89 : ρ (.tmp 89) = .pointer (some ⟨O, 2, none⟩) := (hJ.vals 1 89 _ rfl (hd ⟨1, .data⟩ (by simp) rfl))
            have hn : L 12 = false := by
              cases e : L 12 with
              | false => rfl
              | true =>
                have r2 : L 2 = true := hcl 12 _ rfl e ⟨2, .data⟩ (by simp) rfl
                rw [r2] at hL; cases hL
            have hbw : Below w6.heap.size w6 W := (below_drew w6).trans (hJ.ahead hn).1
            have q := (World.cell?_of_block (hbw.block _ (loc_lt LO6.out.bo))).trans x2
            clear hbw
            refine does_value (v := .slice a0 i c0) (w' := W) ?_ (hJ.pure rfl (fun j d v h e => by subst e; exact (tab22_inj (rfl : (tab22 w.heap.size O i a0 c0 (.agg #[.string tt, .slice a1 S.kinds.length b1, .slice a2 S.members.length b2, .slice (some ⟨gp, op, none⟩) S.preds.length b3, .slice a4 S.classes.length b4, .slice a5 S.sources.length b5, .slice a6 S.rules.length b6, .slice a7 S.excepts.length b7, .slice a8 S.totals.length b8]) g oo l.args.length ac s pos) 2 = some (90, _)) h)) (by simp) (by decide) (fun h => A22.go h (more_off (by decide)) (more_off (by decide)) (laid_ne (by simp)) (laid_ne (by simp))) (fun h => B22.go h (more_off (by decide)) (laid_ne (by simp))))
            clear hc hf hL hd hcl hJ
            go_simp
          · intro ρ W L hc hf hL hd hcl hJ
            have k2 : ρ (.tmp 2) = ptr w.heap.size := hJ.base (2, ptr w.heap.size) (by simp)
            have hn : L 12 = false := by
              cases e : L 12 with
              | false => rfl
              | true =>
                have r11 : L 11 = true := hcl 12 _ rfl e ⟨11, .data⟩ (by simp) rfl
                have r10 : L 10 = true := hcl 11 _ rfl r11 ⟨10, .data⟩ (by simp) rfl
                have r4 : L 4 = true := hcl 10 _ rfl r10 ⟨4, .data⟩ (by simp) rfl
                have r3 : L 3 = true := hcl 4 _ rfl r4 ⟨3, .data⟩ (by simp) rfl
                rw [r3] at hL; cases hL
            have hbw : Below w6.heap.size w6 W := (below_drew w6).trans (hJ.ahead hn).1
            have q0 := (World.cell?_of_block (hbw.block _ (loc_lt LO6.out.lt.b0))).trans y0
            have q1 := (World.cell?_of_block (hbw.block _ (loc_lt LO6.out.lt.b0))).trans y1
            have q2 := (World.cell?_of_block (hbw.block _ (loc_lt LO6.out.lt.b0))).trans y2
            have q3 := (World.cell?_of_block (hbw.block _ (loc_lt LO6.out.lt.b0))).trans y3
            have q4 := (World.cell?_of_block (hbw.block _ (loc_lt LO6.out.lt.b0))).trans y4
            have q5 := (World.cell?_of_block (hbw.block _ (loc_lt LO6.out.lt.b0))).trans y5
            have q6 := (World.cell?_of_block (hbw.block _ (loc_lt LO6.out.lt.b0))).trans y6
            have q7 := (World.cell?_of_block (hbw.block _ (loc_lt LO6.out.lt.b0))).trans y7
            have q8 := (World.cell?_of_block (hbw.block _ (loc_lt LO6.out.lt.b0))).trans y8
            clear hbw
            refine does_value (v := .agg #[.string tt, .slice a1 S.kinds.length b1, .slice a2 S.members.length b2, .slice (some ⟨gp, op, none⟩) S.preds.length b3, .slice a4 S.classes.length b4, .slice a5 S.sources.length b5, .slice a6 S.rules.length b6, .slice a7 S.excepts.length b7, .slice a8 S.totals.length b8]) (w' := W) ?_ (hJ.pure rfl (fun j d v h e => by subst e; exact (tab22_inj (rfl : (tab22 w.heap.size O i a0 c0 (.agg #[.string tt, .slice a1 S.kinds.length b1, .slice a2 S.members.length b2, .slice (some ⟨gp, op, none⟩) S.preds.length b3, .slice a4 S.classes.length b4, .slice a5 S.sources.length b5, .slice a6 S.rules.length b6, .slice a7 S.excepts.length b7, .slice a8 S.totals.length b8]) g oo l.args.length ac s pos) 3 = some (91, _)) h)) (by simp) (by decide) (fun h => A22.go h (more_off (by decide)) (more_off (by decide)) (laid_ne (by simp)) (laid_ne (by simp))) (fun h => B22.go h (more_off (by decide)) (laid_ne (by simp))))
            clear hc hf hL hd hcl hJ
            go_simp
          · intro ρ W L hc hf hL hd hcl hJ
            have k91 : ρ (.tmp 91) = .agg #[.string tt, .slice a1 S.kinds.length b1, .slice a2 S.members.length b2, .slice (some ⟨gp, op, none⟩) S.preds.length b3, .slice a4 S.classes.length b4, .slice a5 S.sources.length b5, .slice a6 S.rules.length b6, .slice a7 S.excepts.length b7, .slice a8 S.totals.length b8] := (hJ.vals 3 91 _ rfl (hd ⟨3, .data⟩ (by simp) rfl))
            have hn : L 12 = false := by
              cases e : L 12 with
              | false => rfl
              | true =>
                have r11 : L 11 = true := hcl 12 _ rfl e ⟨11, .data⟩ (by simp) rfl
                have r10 : L 10 = true := hcl 11 _ rfl r11 ⟨10, .data⟩ (by simp) rfl
                have r4 : L 4 = true := hcl 10 _ rfl r10 ⟨4, .data⟩ (by simp) rfl
                rw [r4] at hL; cases hL
            have hbw : Below w6.heap.size w6 W := (below_drew w6).trans (hJ.ahead hn).1
            have kf := hf 74
            have CM := rmembersS (SR.go (LO6.out.lt.low.trans (hbw.mono LO6.out.lt.low.size)) HS.out) (by omega)
            refine does_call (f := 74) (args := #[.agg #[.string tt, .slice a1 S.kinds.length b1, .slice a2 S.members.length b2, .slice (some ⟨gp, op, none⟩) S.preds.length b3, .slice a4 S.classes.length b4, .slice a5 S.sources.length b5, .slice a6 S.rules.length b6, .slice a7 S.excepts.length b7, .slice a8 S.totals.length b8]]) (w' := W) ?_ CM ?_
            · clear hc hf hL hd hcl hJ CM hbw
              go_simp
            · rintro e W' ⟨xa, xc, rfl, hat, hbm⟩
              refine ⟨_, rfl, hJ.other rfl (fun j d v h => by intro e; cases e; exact (tab22_off h).1 rfl) (by simp) (fun e => ?_) (fun e => ?_)⟩
              · have hA := hJ.ahead hn
                refine ⟨hA.1.trans (hbm.mono hA.1.size), fun _ => ⟨xa, xc, laid_eq, hat⟩, fun e11 => ?_⟩
                have r11 := more_ne e11 (by decide)
                have r10 : L 10 = true := hcl 11 _ rfl r11 ⟨10, .data⟩ (by simp) rfl
                have r4 : L 4 = true := hcl 10 _ rfl r10 ⟨4, .data⟩ (by simp) rfl
                rw [r4] at hL; cases hL
              · rw [more_off (by decide), hn] at e; cases e
          · intro ρ W L hc hf hL hd hcl hJ
            have k3 : ρ (.tmp 3) = ptr (w.heap.size + 1) := hJ.base (3, ptr (w.heap.size + 1)) (by simp)
            refine does_value (v := .pointer (some ⟨w.heap.size + 1, 2, none⟩)) (w' := W) ?_ (hJ.pure rfl (fun j d v h e => by subst e; exact (tab22_inj (rfl : (tab22 w.heap.size O i a0 c0 (.agg #[.string tt, .slice a1 S.kinds.length b1, .slice a2 S.members.length b2, .slice (some ⟨gp, op, none⟩) S.preds.length b3, .slice a4 S.classes.length b4, .slice a5 S.sources.length b5, .slice a6 S.rules.length b6, .slice a7 S.excepts.length b7, .slice a8 S.totals.length b8]) g oo l.args.length ac s pos) 5 = some (93, _)) h)) (by simp) (by decide) (fun h => A22.go h (more_off (by decide)) (more_off (by decide)) (laid_ne (by simp)) (laid_ne (by simp))) (fun h => B22.go h (more_off (by decide)) (laid_ne (by simp))))
            clear hc hf hL hd hcl hJ
            go_simp
          · intro ρ W L hc hf hL hd hcl hJ
            have k93 : ρ (.tmp 93) = .pointer (some ⟨w.heap.size + 1, 2, none⟩) := (hJ.vals 5 93 _ rfl (hd ⟨5, .data⟩ (by simp) rfl))
            have hn : L 12 = false := by
              cases e : L 12 with
              | false => rfl
              | true =>
                have r11 : L 11 = true := hcl 12 _ rfl e ⟨11, .data⟩ (by simp) rfl
                have r10 : L 10 = true := hcl 11 _ rfl r11 ⟨10, .data⟩ (by simp) rfl
                have r9 : L 9 = true := hcl 10 _ rfl r10 ⟨9, .data⟩ (by simp) rfl
                have r8 : L 8 = true := hcl 9 _ rfl r9 ⟨8, .data⟩ (by simp) rfl
                have r6 : L 6 = true := hcl 8 _ rfl r8 ⟨6, .data⟩ (by simp) rfl
                rw [r6] at hL; cases hL
            have hbw : Below w6.heap.size w6 W := (below_drew w6).trans (hJ.ahead hn).1
            have q := (World.cell?_of_block (hbw.block _ (loc_lt LO6.out.lt.b1))).trans d2
            clear hbw
            refine does_value (v := .slice (some ⟨g, oo, none⟩) l.args.length ac) (w' := W) ?_ (hJ.pure rfl (fun j d v h e => by subst e; exact (tab22_inj (rfl : (tab22 w.heap.size O i a0 c0 (.agg #[.string tt, .slice a1 S.kinds.length b1, .slice a2 S.members.length b2, .slice (some ⟨gp, op, none⟩) S.preds.length b3, .slice a4 S.classes.length b4, .slice a5 S.sources.length b5, .slice a6 S.rules.length b6, .slice a7 S.excepts.length b7, .slice a8 S.totals.length b8]) g oo l.args.length ac s pos) 6 = some (94, _)) h)) (by simp) (by decide) (fun h => A22.go h (more_off (by decide)) (more_off (by decide)) (laid_ne (by simp)) (laid_ne (by simp))) (fun h => B22.go h (more_off (by decide)) (laid_ne (by simp))))
            clear hc hf hL hd hcl hJ
            go_simp
          · intro ρ W L hc hf hL hd hcl hJ
            have k11 : ρ (.tmp 11) = .int .i64 i := hJ.base (11, .int .i64 i) (by simp)
            refine does_value (v := .int .i64 i) (w' := W) ?_ (hJ.pure rfl (fun j d v h e => by subst e; exact (tab22_inj (rfl : (tab22 w.heap.size O i a0 c0 (.agg #[.string tt, .slice a1 S.kinds.length b1, .slice a2 S.members.length b2, .slice (some ⟨gp, op, none⟩) S.preds.length b3, .slice a4 S.classes.length b4, .slice a5 S.sources.length b5, .slice a6 S.rules.length b6, .slice a7 S.excepts.length b7, .slice a8 S.totals.length b8]) g oo l.args.length ac s pos) 7 = some (95, _)) h)) (by simp) (by decide) (fun h => A22.go h (more_off (by decide)) (more_off (by decide)) (laid_ne (by simp)) (laid_ne (by simp))) (fun h => B22.go h (more_off (by decide)) (laid_ne (by simp))))
            clear hc hf hL hd hcl hJ
            go_simp
          · intro ρ W L hc hf hL hd hcl hJ
            have k94 : ρ (.tmp 94) = .slice (some ⟨g, oo, none⟩) l.args.length ac := (hJ.vals 6 94 _ rfl (hd ⟨6, .data⟩ (by simp) rfl))
            have k95 : ρ (.tmp 95) = .int .i64 i := (hJ.vals 7 95 _ rfl (hd ⟨7, .data⟩ (by simp) rfl))
            refine does_value (v := .pointer (some ⟨g, oo + i, none⟩)) (w' := W) ?_ (hJ.pure rfl (fun j d v h e => by subst e; exact (tab22_inj (rfl : (tab22 w.heap.size O i a0 c0 (.agg #[.string tt, .slice a1 S.kinds.length b1, .slice a2 S.members.length b2, .slice (some ⟨gp, op, none⟩) S.preds.length b3, .slice a4 S.classes.length b4, .slice a5 S.sources.length b5, .slice a6 S.rules.length b6, .slice a7 S.excepts.length b7, .slice a8 S.totals.length b8]) g oo l.args.length ac s pos) 8 = some (96, _)) h)) (by simp) (by decide) (fun h => A22.go h (more_off (by decide)) (more_off (by decide)) (laid_ne (by simp)) (laid_ne (by simp))) (fun h => B22.go h (more_off (by decide)) (laid_ne (by simp))))
            clear hc hf hL hd hcl hJ
            go_simp
          · intro ρ W L hc hf hL hd hcl hJ
            have k96 : ρ (.tmp 96) = .pointer (some ⟨g, oo + i, none⟩) := (hJ.vals 8 96 _ rfl (hd ⟨8, .data⟩ (by simp) rfl))
            have hn : L 12 = false := by
              cases e : L 12 with
              | false => rfl
              | true =>
                have r11 : L 11 = true := hcl 12 _ rfl e ⟨11, .data⟩ (by simp) rfl
                have r10 : L 10 = true := hcl 11 _ rfl r11 ⟨10, .data⟩ (by simp) rfl
                have r9 : L 9 = true := hcl 10 _ rfl r10 ⟨9, .data⟩ (by simp) rfl
                rw [r9] at hL; cases hL
            have hbw : Below w6.heap.size w6 W := (below_drew w6).trans (hJ.ahead hn).1
            have q := (World.cell?_of_block (hbw.block g (Nat.lt_of_lt_of_le HGG.out LO6.out.lt.low.size))).trans f6
            clear hbw
            refine does_value (v := .string ⟨s.toArray⟩) (w' := W) ?_ (hJ.pure rfl (fun j d v h e => by subst e; exact (tab22_inj (rfl : (tab22 w.heap.size O i a0 c0 (.agg #[.string tt, .slice a1 S.kinds.length b1, .slice a2 S.members.length b2, .slice (some ⟨gp, op, none⟩) S.preds.length b3, .slice a4 S.classes.length b4, .slice a5 S.sources.length b5, .slice a6 S.rules.length b6, .slice a7 S.excepts.length b7, .slice a8 S.totals.length b8]) g oo l.args.length ac s pos) 9 = some (97, _)) h)) (by simp) (by decide) (fun h => A22.go h (more_off (by decide)) (more_off (by decide)) (laid_ne (by simp)) (laid_ne (by simp))) (fun h => B22.go h (more_off (by decide)) (laid_ne (by simp))))
            clear hc hf hL hd hcl hJ
            go_simp
          · intro ρ W L hc hf hL hd hcl hJ
            have hn : L 12 = false := by
              cases e : L 12 with
              | false => rfl
              | true =>
                have r11 : L 11 = true := hcl 12 _ rfl e ⟨11, .data⟩ (by simp) rfl
                have r10 : L 10 = true := hcl 11 _ rfl r11 ⟨10, .data⟩ (by simp) rfl
                rw [r10] at hL; cases hL
            obtain ⟨xa, xc, e92, hat⟩ := (hJ.ahead hn).2.1 (hd ⟨4, .data⟩ (by simp) rfl)
            have k92 : ρ (.tmp 92) = .slice xa S.members.length xc := e92
            have k97 : ρ (.tmp 97) = .string ⟨s.toArray⟩ := (hJ.vals 9 97 _ rfl (hd ⟨9, .data⟩ (by simp) rfl))
            have kf := hf 59
            have CF := rfindS (c := xc) hat HML.out (by omega) s
            rw [findZ_in HMS.out, hps] at CF
            refine does_call (f := 59) (args := #[.slice xa S.members.length xc, .string ⟨s.toArray⟩]) (w' := W) ?_ CF ?_
            · clear hc hf hL hd hcl hJ CF hat
              go_simp
            · rintro e W' ⟨rfl, hw⟩
              subst W'
              exact ⟨_, rfl, (hJ.pure rfl (fun j d v h e => by subst e; exact (tab22_inj (rfl : (tab22 w.heap.size O i a0 c0 (.agg #[.string tt, .slice a1 S.kinds.length b1, .slice a2 S.members.length b2, .slice (some ⟨gp, op, none⟩) S.preds.length b3, .slice a4 S.classes.length b4, .slice a5 S.sources.length b5, .slice a6 S.rules.length b6, .slice a7 S.excepts.length b7, .slice a8 S.totals.length b8]) g oo l.args.length ac s pos) 10 = some (98, _)) h)) (by simp) (by decide) (fun h => A22.go h (more_off (by decide)) (more_off (by decide)) (laid_ne (by simp)) (laid_ne (by simp))) (fun h => B22.go h (more_off (by decide)) (laid_ne (by simp))))⟩
          · intro ρ W L hc hf hL hd hcl hJ
            have k98 : ρ (.tmp 98) = .int .i64 pos := (hJ.vals 10 98 _ rfl (hd ⟨10, .data⟩ (by simp) rfl))
            have hn : L 12 = false := by
              cases e : L 12 with
              | false => rfl
              | true =>
                have r11 : L 11 = true := hcl 12 _ rfl e ⟨11, .data⟩ (by simp) rfl
                rw [r11] at hL; cases hL
            refine does_value (v := .slice (some ⟨W.heap.size, 0, none⟩) 1 1) (w' := W.alloc (.cells #[.int .i64 pos] 3)) ?_ (hJ.other rfl (fun j d v h => by intro e; cases e; exact (tab22_off h).2.1 rfl) (by simp) (fun e => ?_) (fun e => ?_))
            · clear hc hf hL hd hcl hJ
              go_simp
            · have hA := hJ.ahead hn
              have hbl : Below W.heap.size W (W.alloc (.cells #[.int .i64 pos] 3)) := (Below.refl _ W).alloc (Nat.le_refl _) _
              refine ⟨hA.1.trans (hbl.mono hA.1.size), fun e4 => ?_, fun _ => ⟨W.heap.size, laid_eq, heap_alloc_new W _⟩⟩
              obtain ⟨xa, xc, e92, hat⟩ := hA.2.1 (more_ne e4 (by decide))
              exact ⟨xa, xc, by rw [laid_ne (by simp)]; exact e92, At1.below hat hbl⟩
            · rw [more_off (by decide), hn] at e; cases e
          · intro ρ W L hc hf hL hd hcl hJ
            have k90 : ρ (.tmp 90) = .slice a0 i c0 := (hJ.vals 2 90 _ rfl (hd ⟨2, .data⟩ (by simp) rfl))
            obtain ⟨hbw0, -, h99⟩ := hJ.ahead hL
            obtain ⟨q, e99, hq⟩ := h99 (hd ⟨11, .data⟩ (by simp) rfl)
            have k99 : ρ (.tmp 99) = .slice (some ⟨q, 0, none⟩) 1 1 := e99
            have hbw := (below_drew w6).trans hbw0
            have hrw := (LO6.out.call hbw).row
            have h15 : L 15 = false := by
              cases e : L 15 with
              | false => rfl
              | true =>
                have r12 : L 12 = true := hcl 15 _ rfl e ⟨12, .data⟩ (by simp) rfl
                rw [r12] at hL; cases hL
            refine does_append (.tmp 90) (.tmp 99) 38 rfl w.heap.size 3 iM _ 1 8 Tryz.underlying38 hiM zM0 zM1 zM2 rfl (by decide) _ i _ k90 hrw ⟨q, 0, none⟩ 1 [.int .i64 pos] k99 rfl (World.news_of_block hq) (by simp [Value.oneCell']) (by unfold maxLen; omega) (by omega) (Nat.le_trans LO6.out.lt.low.size hbw.size) fun gg cap W8 hown hgr => ?_
            exact hJ.other rfl (fun j d v h => by intro e; cases e; exact (tab22_off h).2.2 rfl) (by simp) (fun e => by rw [more_at] at e; cases e) (fun _ => ⟨gg, cap, W, W8, hbw0, hown, hgr, laid_eq, by rw [more_off (by decide), h15]; rfl⟩)
          · intro ρ W L hc hf hL hd hcl hJ
            have k10 : ρ (.tmp 10) = ptr O := hJ.base (10, ptr O) (by simp)
            refine does_value (v := .pointer (some ⟨O, 1, none⟩)) (w' := W) ?_ (hJ.pure rfl (fun j d v h e => by subst e; exact (tab22_inj (rfl : (tab22 w.heap.size O i a0 c0 (.agg #[.string tt, .slice a1 S.kinds.length b1, .slice a2 S.members.length b2, .slice (some ⟨gp, op, none⟩) S.preds.length b3, .slice a4 S.classes.length b4, .slice a5 S.sources.length b5, .slice a6 S.rules.length b6, .slice a7 S.excepts.length b7, .slice a8 S.totals.length b8]) g oo l.args.length ac s pos) 13 = some (101, _)) h)) (by simp) (by decide) (fun h => A22.go h (more_off (by decide)) (more_off (by decide)) (laid_ne (by simp)) (laid_ne (by simp))) (fun h => B22.go h (more_off (by decide)) (laid_ne (by simp))))
            clear hc hf hL hd hcl hJ
            go_simp
          · intro ρ W L hc hf hL hd hcl hJ
            have k101 : ρ (.tmp 101) = .pointer (some ⟨O, 1, none⟩) := (hJ.vals 13 101 _ rfl (hd ⟨13, .data⟩ (by simp) rfl))
            refine does_value (v := .pointer (some ⟨O, 2, none⟩)) (w' := W) ?_ (hJ.pure rfl (fun j d v h e => by subst e; exact (tab22_inj (rfl : (tab22 w.heap.size O i a0 c0 (.agg #[.string tt, .slice a1 S.kinds.length b1, .slice a2 S.members.length b2, .slice (some ⟨gp, op, none⟩) S.preds.length b3, .slice a4 S.classes.length b4, .slice a5 S.sources.length b5, .slice a6 S.rules.length b6, .slice a7 S.excepts.length b7, .slice a8 S.totals.length b8]) g oo l.args.length ac s pos) 14 = some (102, _)) h)) (by simp) (by decide) (fun h => A22.go h (more_off (by decide)) (more_off (by decide)) (laid_ne (by simp)) (laid_ne (by simp))) (fun h => B22.go h (more_off (by decide)) (laid_ne (by simp))))
            clear hc hf hL hd hcl hJ
            go_simp
          · intro ρ W L hc hf hL hd hcl hJ
            have h12 : L 12 = true := hd ⟨12, .data⟩ (by simp) rfl
            obtain ⟨gg, cap, wm, W8, hbw0, hown, hgr, e100, eW⟩ := hJ.behind h12
            rw [hL] at eW
            have eW2 : W = W8 := eW
            subst eW2
            have k102 : ρ (.tmp 102) = .pointer (some ⟨O, 2, none⟩) := (hJ.vals 14 102 _ rfl (hd ⟨14, .data⟩ (by simp) rfl))
            have k100 : ρ (.tmp 100) = .slice (some ⟨gg, 0, none⟩) (i + 1) cap := e100
            have hbw := (below_drew w6).trans hbw0
            have hm := LO6.out.call hbw
            have hno := own_ne (owns_down' hm.row (Nat.zero_le _)) hm.bo (by decide)
            have hbo : W.heap[O]? = wm.heap[O]? := by
              rcases hgr with ⟨h1, h2⟩ | ⟨_, h2⟩
              · exact h2.block O (loc_lt hm.bo) (fun e => hno (by rw [h1, e]))
              · exact h2.block O (loc_lt hm.bo) (by simp)
            have q1 := cell_of_row W _ 2 _ _ _ (hbo.trans hm.bo)
            have q2 := frozen_of_row W _ 2 _ _ (hbo.trans hm.bo)
            simp only [List.getElem?_toArray, List.getElem?_cons_zero, List.getElem?_cons_succ] at q1
            refine does_skip (w' := W.setCell ⟨O, 2, none⟩ (.slice (some ⟨gg, 0, none⟩) (i + 1) cap)) ?_ (hJ.other rfl (fun j d v h => by simp) (by simp) (fun e => by rw [more_off (by decide), h12] at e; cases e) (fun _ => ⟨gg, cap, wm, W, hbw0, hown, hgr, by rw [laid_ne (by simp)]; exact e100, by rw [more_at]; rfl⟩))
            clear hc hf hL hd hcl hJ hbo hm hno hbw hbw0 hown hgr e100 eW h12
            go_simp
          · intro c a' w' _ hE
            exact hE.elim
          · rintro ⟨tm, df⟩ w' hsz hdf ⟨L, hL, hJ⟩ hold
            simp only at hdf hsz
            subst hdf
            obtain ⟨gg, cap, wm, W8, hbw0, hown, hgr, -, eW⟩ := hJ.behind (hL 12 (by decide))
            rw [hL 15 (by decide)] at eW
            have eW2 : w' = W8.setCell ⟨O, 2, none⟩ (.slice (some ⟨gg, 0, none⟩) (i + 1) cap) := eW
            rw [← hps] at hown HQ4
            have LX := hide (Lo.step LO6.out ((below_drew w6).trans hbw0) HTK.out hown hgr HQ4.out)
            rw [← eW2] at LX
            have htm := frame_keep 55 102 (by kernel_rfl) hsz hold
            simp only [zr, Nat.reduceLT, Nat.reduceAdd, true_or, or_true, or_self, if_true, if_false] at htm
            rw [htm]
            clear htm hJ hL hold hsz hown hgr eW eW2 hbw0 LO6 HQ4 CM HMS f6 y0 y1 y2 y3 y4 y5 y6 y7 y8 d0 d1 d2 d3 d4
            generalize tm.getD 55 undef = x55
            generalize tm.getD 56 undef = x56
            generalize tm.getD 57 undef = x57
            generalize tm.getD 58 undef = x58
            generalize tm.getD 59 undef = x59
            generalize tm.getD 60 undef = x60
            generalize tm.getD 61 undef = x61
            generalize tm.getD 62 undef = x62
            generalize tm.getD 63 undef = x63
            generalize tm.getD 64 undef = x64
            generalize tm.getD 65 undef = x65
            generalize tm.getD 66 undef = x66
            generalize tm.getD 67 undef = x67
            generalize tm.getD 68 undef = x68
            generalize tm.getD 69 undef = x69
            generalize tm.getD 70 undef = x70
            generalize tm.getD 71 undef = x71
            generalize tm.getD 72 undef = x72
            generalize tm.getD 73 undef = x73
            generalize tm.getD 74 undef = x74
            generalize tm.getD 75 undef = x75
            generalize tm.getD 76 undef = x76
            generalize tm.getD 77 undef = x77
            generalize tm.getD 78 undef = x78
            generalize tm.getD 79 undef = x79
            generalize tm.getD 80 undef = x80
            generalize tm.getD 81 undef = x81
            generalize tm.getD 82 undef = x82
            generalize tm.getD 83 undef = x83
            generalize tm.getD 84 undef = x84
            generalize tm.getD 85 undef = x85
            generalize tm.getD 86 undef = x86
            generalize tm.getD 87 undef = x87
            generalize tm.getD 88 undef = x88
            generalize tm.getD 89 undef = x89
            generalize tm.getD 90 undef = x90
            generalize tm.getD 91 undef = x91
            generalize tm.getD 92 undef = x92
            generalize tm.getD 93 undef = x93
            generalize tm.getD 94 undef = x94
            generalize tm.getD 95 undef = x95
            generalize tm.getD 96 undef = x96
            generalize tm.getD 97 undef = x97
            generalize tm.getD 98 undef = x98
            generalize tm.getD 99 undef = x99
            generalize tm.getD 100 undef = x100
            generalize tm.getD 101 undef = x101
            generalize tm.getD 102 undef = x102
            clear tm
            go_wp2_with fail
            go_roundw
            case rel => exact ⟨i + 1, _, _, by omega, by go_num, LX⟩
            case measure => simp [intOf]; omega
    · have hin : i = l.args.length := by omega
      have HEND : Hid (argsGM S.ctx [] l.args p.kinds = .ok (l.args.map (posB S.ctx.people))) := hide (by
        have := LO.out.eq
        rw [hin, List.take_length, List.drop_length] at this
        rw [← this]
        rfl)
      have HROW : Hid (wr.ownsRow w.heap.size 3 1 (.slice a0 i c0) i (nats (l.args.map (posB S.ctx.people)))) := hide (by
        have := LO.out.row
        rw [hin, List.take_length] at this
        rw [hin]
        exact this)
      have HIN := hide hin
      have HTL : Hid (literalGM S.ctx l = (literalS S.ctx [] l >>= fun _ => .ok (l.args.map (posB S.ctx.people)))) := hide (literal_tail HFP.out (by rw [HAG.out, HEND.out]))
      clear hin
      have d0 := cell_of_row wr _ 0 _ _ _ LO.out.lt.b1
      have d1 := cell_of_row wr _ 1 _ _ _ LO.out.lt.b1
      have d2 := cell_of_row wr _ 2 _ _ _ LO.out.lt.b1
      have d3 := cell_of_row wr _ 3 _ _ _ LO.out.lt.b1
      have d4 := cell_of_row wr _ 4 _ _ _ LO.out.lt.b1
      simp only [List.getElem?_toArray, List.getElem?_cons_zero, List.getElem?_cons_succ] at d0 d1 d2 d3 d4
      go_upto_region 24 with fail
      have PK := hide (Pk.start (X := wr) HS.out HFIT.out LO.out.lt.low)
      have hA : Below wr.heap.size wr (wr.alloc (.cells #[.slice none 0 0, .slice none 0 0, .slice none 0 0] 104)) := (Below.refl _ wr).alloc (Nat.le_refl _) _
      have HA5 := hide hA
      clear hA d0 d1 d2 d3 d4
      generalize wr.alloc (.cells #[.slice none 0 0, .slice none 0 0, .slice none 0 0] 104) = X5 at *
      have LO5 := hide (LO.out.call HA5.out)
      have CL := hide (rlit_any PK.out (by omega) HOK.out l HLL.out)
      have HNZ := hide (show Nz (literalS S.ctx [] l) from by rw [← literalS_eq]; exact Nz.bind (nz_literal _ _ _) fun _ => Nz.ok _)
      unfold St9.agg at CL
      simp only at CL
      generalize literalS S.ctx [] l = o1 at *
      have y0 := cell_of_row X5 _ 0 _ _ _ LO5.out.lt.b0
      have y1 := cell_of_row X5 _ 1 _ _ _ LO5.out.lt.b0
      have y2 := cell_of_row X5 _ 2 _ _ _ LO5.out.lt.b0
      have y3 := cell_of_row X5 _ 3 _ _ _ LO5.out.lt.b0
      have y4 := cell_of_row X5 _ 4 _ _ _ LO5.out.lt.b0
      have y5 := cell_of_row X5 _ 5 _ _ _ LO5.out.lt.b0
      have y6 := cell_of_row X5 _ 6 _ _ _ LO5.out.lt.b0
      have y7 := cell_of_row X5 _ 7 _ _ _ LO5.out.lt.b0
      have y8 := cell_of_row X5 _ 8 _ _ _ LO5.out.lt.b0
      have d0 := cell_of_row X5 _ 0 _ _ _ LO5.out.lt.b1
      have d1 := cell_of_row X5 _ 1 _ _ _ LO5.out.lt.b1
      have d2 := cell_of_row X5 _ 2 _ _ _ LO5.out.lt.b1
      have d3 := cell_of_row X5 _ 3 _ _ _ LO5.out.lt.b1
      have d4 := cell_of_row X5 _ 4 _ _ _ LO5.out.lt.b1
      simp only [List.getElem?_toArray, List.getElem?_cons_zero, List.getElem?_cons_succ] at y0 y1 y2 y3 y4 y5 y6 y7 y8 d0 d1 d2 d3 d4
      go_upto_region 25 with (go_at_call 94; refine CL.out.mono ?_; rintro e w6 ⟨rfl, hf6, hp6⟩)
      have hb6 : Below wr.heap.size wr w6 := HA5.out.trans (hf6.below fun k hk => ⟨Nat.lt_of_lt_of_le hk HA5.out.size, by omega⟩)
      have LO6 := hide (LO.out.call hb6)
      have HROW6 := hide (owns_keep HROW.out fun g hg => hb6.block g (owns_lt HROW.out hg))
      clear hf6 hp6 hb6 CL PK LO LO5 HA5 HROW y0 y1 y2 y3 y4 y5 y6 y7 y8 d0 d1 d2 d3 d4
      generalize hec : erc o1 = z at *
      cases o1 with
      | error c =>
        have hec1 : c = z := hec
        subst hec1
        have HE : Hid (literalGM S.ctx l = .error c) := hide (by rw [HTL.out]; rfl)
        have hcz := HNZ.out c rfl
        have hbc : (c == 0) = false := beq_eq_false_iff_ne.2 hcz
        have L9 := hide LO6.out.lt
        clear hcz hec HNZ
        have e0 := cell_of_row w6 _ 0 _ _ _ L9.out.b2
        have e1 := cell_of_row w6 _ 1 _ _ _ L9.out.b2
        have e2 := cell_of_row w6 _ 2 _ _ _ L9.out.b2
        have e3 := cell_of_row w6 _ 3 _ _ _ L9.out.b2
        have e4 := cell_of_row w6 _ 4 _ _ _ L9.out.b2
        simp only [List.getElem?_toArray, List.getElem?_cons_zero, List.getElem?_cons_succ] at e0 e1 e2 e3 e4
        have g0 := frozen_of_row w6 _ 0 _ _ L9.out.b2
        have g1 := frozen_of_row w6 _ 1 _ _ L9.out.b2
        have g2 := frozen_of_row w6 _ 2 _ _ L9.out.b2
        have g3 := frozen_of_row w6 _ 3 _ _ L9.out.b2
        have g4 := frozen_of_row w6 _ 4 _ _ L9.out.b2
        have HY := hide (Lt.zero L9.out (V := [.bool false, .int .i64 0, .slice none 0 0, .int .i64 0, .int .i64 0]) rfl)
        simp only [setAll] at HY
        go_wp2_with fail
        generalize (((((w6).setCell ⟨w.heap.size + 2, 0, none⟩ (.bool false)).setCell ⟨w.heap.size + 2, 1, none⟩ (.int .i64 0)).setCell ⟨w.heap.size + 2, 2, none⟩ (.slice none 0 0)).setCell ⟨w.heap.size + 2, 3, none⟩ (.int .i64 0)).setCell ⟨w.heap.size + 2, 4, none⟩ (.int .i64 0) = Y at *
        obtain ⟨hY, hbe⟩ := HY.out
        have z0 := cell_of_row Y _ 0 _ _ _ hY
        have z1 := cell_of_row Y _ 1 _ _ _ hY
        have z2 := cell_of_row Y _ 2 _ _ _ hY
        have z3 := cell_of_row Y _ 3 _ _ _ hY
        have z4 := cell_of_row Y _ 4 _ _ _ hY
        simp only [List.getElem?_toArray, List.getElem?_cons_zero, List.getElem?_cons_succ] at z0 z1 z2 z3 z4
        simp [bodyPost, results, Tryz.results37, go_sem, z0, z1, z2, z3, z4]
        exact HBAD.out _ Y hbe (.inr ⟨HC.out, HE.out⟩)

      | ok v2 =>
        have hec1 : 0 = z := hec
        subst hec1
        clear hec HNZ
        have HG : Hid (literalGM S.ctx l = .ok (l.args.map (posB S.ctx.people))) := hide (by rw [HTL.out]; rfl)
        have x0 := cell_of_row w6 _ 0 _ _ _ LO6.out.bo
        have x1 := cell_of_row w6 _ 1 _ _ _ LO6.out.bo
        have x2 := cell_of_row w6 _ 2 _ _ _ LO6.out.bo
        have x3 := cell_of_row w6 _ 3 _ _ _ LO6.out.bo
        have x4 := cell_of_row w6 _ 4 _ _ _ LO6.out.bo
        have e0 := cell_of_row w6 _ 0 _ _ _ LO6.out.lt.b2
        have e1 := cell_of_row w6 _ 1 _ _ _ LO6.out.lt.b2
        have e2 := cell_of_row w6 _ 2 _ _ _ LO6.out.lt.b2
        have e3 := cell_of_row w6 _ 3 _ _ _ LO6.out.lt.b2
        have e4 := cell_of_row w6 _ 4 _ _ _ LO6.out.lt.b2
        simp only [List.getElem?_toArray, List.getElem?_cons_zero, List.getElem?_cons_succ] at x0 x1 x2 x3 x4 e0 e1 e2 e3 e4
        have g0 := frozen_of_row w6 _ 0 _ _ LO6.out.lt.b2
        have g1 := frozen_of_row w6 _ 1 _ _ LO6.out.lt.b2
        have g2 := frozen_of_row w6 _ 2 _ _ LO6.out.lt.b2
        have g3 := frozen_of_row w6 _ 3 _ _ LO6.out.lt.b2
        have g4 := frozen_of_row w6 _ 4 _ _ LO6.out.lt.b2
        have hne : ¬ O = w.heap.size + 2 := by have := LO6.out.ne; omega
        have hne2 : ¬ w.heap.size + 2 = O := by have := LO6.out.ne; omega
        have HY := hide (Lt.zero LO6.out.lt (V := [.bool l.neg, .int .i64 ip, .slice a0 i c0, .int .i64 l.value, .int .i64 0]) rfl)
        have HRY : Hid ((setAll w6 (w.heap.size + 2) 0 [.bool l.neg, .int .i64 ip, .slice a0 i c0, .int .i64 l.value, .int .i64 0]).ownsRow w.heap.size 3 1 (.slice a0 i c0) i (nats (l.args.map (posB S.ctx.people)))) := hide (owns_keep HROW6.out fun g hg => setAll_other (by intro e; subst e; exact own_ne (owns_down' HROW6.out (Nat.zero_le _)) LO6.out.lt.b2 (by decide) hg))
        simp only [setAll] at HY HRY
        go_wp2_with fail
        generalize (((((w6).setCell ⟨w.heap.size + 2, 0, none⟩ (.bool l.neg)).setCell ⟨w.heap.size + 2, 1, none⟩ (.int .i64 ip)).setCell ⟨w.heap.size + 2, 2, none⟩ (.slice a0 i c0)).setCell ⟨w.heap.size + 2, 3, none⟩ (.int .i64 l.value)).setCell ⟨w.heap.size + 2, 4, none⟩ (.int .i64 0) = Y at *
        obtain ⟨hY, hbe⟩ := HY.out
        have z0 := cell_of_row Y _ 0 _ _ _ hY
        have z1 := cell_of_row Y _ 1 _ _ _ hY
        have z2 := cell_of_row Y _ 2 _ _ _ hY
        have z3 := cell_of_row Y _ 3 _ _ _ hY
        have z4 := cell_of_row Y _ 4 _ _ _ hY
        simp only [List.getElem?_toArray, List.getElem?_cons_zero, List.getElem?_cons_succ] at z0 z1 z2 z3 z4
        have hms : (l.args.map (posB S.ctx.people)).length = i := by rw [List.length_map]; exact HIN.out.symm
        have hfin := HGOOD.out _ a0 c0 Y hbe HC.out HG.out (by rw [hms]; exact HRY.out)
        rw [hms, HIP.out] at hfin
        simp [bodyPost, results, Tryz.results37, go_sem, z0, z1, z2, z3, z4]
        exact hfin
theorem rliteral_any {S : StatM} {st : St9} {w : World} (h : SR w.heap.size w S st) (l : LitM) {aa : Option Addr} {ac : Nat} (hll : Strs w.heap.size w l.args (.slice aa l.args.length ac)) : Calls Tryz.prog 37 #[st.agg, .agg #[.bool l.neg, .string ⟨l.pred.toArray⟩, .slice aa l.args.length ac, .bool l.hasValue, .int .i64 l.value]] w fun e w' => Et S l w (checkM S).1 (literalGM S.ctx l) e w' :=
  rliteral_q h l hll _ (fun c w' hb hc => ⟨hb, by
    rcases hc with ⟨h1, h2⟩ | ⟨h1, h2⟩
    · exact .inl ⟨h1, by rw [h2]⟩
    · exact .inr (.inl ⟨h1, c, h2, rfl⟩)⟩) (fun ms a c w' hb h1 h2 h3 => ⟨hb, .inr (.inr ⟨h1, ms, _, h2, rfl, a, c, rfl, h3⟩)⟩)
end Go.Proofs.YtfnobccminhjpaaGreat
