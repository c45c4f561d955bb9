/- ResolveOwn, walked. -/
import Derived.Test.YtfnobccminhjpabGreatLitG9
import Derived.Test.YtfnobccminhjpabGreatRaw9
import Derived.Test.YtfnobccminhjpabGreatRaw9
import Derived.Test.YtfnobccminhjpabGreatBkPut
import Derived.Test.YtfnobccminhjpabGreatWork9
import Derived.Test.YtfnobccminhjpabGreatOpen8
namespace Go.Proofs.YtfnobccminhjpabGreat
open Go.RowKit Go.Shelf Go.Maps Go.WideMaps

theorem argsG_len {C : Ctx} : ∀ {l ks : List Bytes} {ms ms' : List Nat}, argsGM C ms l ks = .ok ms' → ms'.length ≤ ms.length + ks.length := by
  intro l
  induction l with
  | nil => intro ks ms ms' h; unfold argsGM at h; cases h; omega
  | cons s r ih =>
    intro ks ms ms' h
    cases ks with
    | nil => unfold argsGM at h; cases h; omega
    | cons k q =>
      unfold argsGM at h
      by_cases hv : isVarB s = true
      · rw [if_pos hv] at h; cases h
      · rw [if_neg hv] at h
        obtain ⟨m, _, h⟩ := ex_ok h
        obtain ⟨_, _, h⟩ := ex_ok h
        have := ih h
        simp at this ⊢
        omega
theorem lit_four {S : StatM} {l : LitM} {ms : List Nat} (hc : (checkM S).1 = 0) (h : literalGM S.ctx l = .ok ms) : ms.length ≤ 4 := by
  have hsp := items_split.1 (check_ok.1 hc).2
  unfold literalGM at h
  obtain ⟨p, hp, h⟩ := ex_ok h
  obtain ⟨_, _, h⟩ := ex_ok h
  obtain ⟨x, hx, h⟩ := ex_ok h
  obtain ⟨_, _, h⟩ := ex_ok h
  obtain ⟨_, _, h⟩ := ex_ok h
  obtain ⟨_, _, h⟩ := ex_ok h
  cases h
  unfold argumentsGM at hx
  obtain ⟨_, _, hx⟩ := ex_ok hx
  have h4 := preds_four hsp.1.1.1.1.1.2 p (findPredM_mem hp)
  have := argsG_len hx
  simp at this
  omega
theorem owns_none {w : World} {B e : Nat} : w.ownsRow B e 1 (.slice none 0 0) 0 [] := ⟨rfl, .inl ⟨rfl, rfl⟩⟩
section
variable {S : StatM} {w w' : World} {e : Ending}
theorem ex_rows {k : Int} (h : Ex w (checkM S).1 (varsM S k) e w') : Below w.heap.size w w' ∧ ∃ na nc ka kc c n xs ys, e = .returned (.tuple #[.slice na n nc, .slice ka n kc, .int .i64 c]) ∧ w'.ownsRow w.heap.size 9 1 (.slice na n nc) n xs ∧ w'.ownsRow w.heap.size 3 1 (.slice ka n kc) n ys ∧ n ≤ 1028 := by
  obtain ⟨hb, ⟨_, rfl⟩ | ⟨_, d, _, rfl⟩ | ⟨h0, v, nv, kv, h1, rfl, hn, hk⟩⟩ := h
  · exact ⟨hb, none, 0, none, 0, _, 0, [], [], rfl, owns_none, owns_none, by omega⟩
  · exact ⟨hb, none, 0, none, 0, _, 0, [], [], rfl, owns_none, owns_none, by omega⟩
  · obtain ⟨na, nc, rfl⟩ := owns_slice hn
    obtain ⟨ka, kc, rfl⟩ := owns_slice hk
    exact ⟨hb, na, nc, ka, kc, _, v.length, _, _, rfl, hn, hk, (vars_fit h0 h1).1⟩
theorem et_rows {l : LitM} (h : Et S l w (checkM S).1 (literalGM S.ctx l) e w') : Below w.heap.size w w' ∧ ∃ y0 y1 la lc y3 y4 c n xs, e = .returned (.tuple #[.agg #[.bool y0, .int .i64 y1, .slice la n lc, .int .i64 y3, .int .i64 y4], .int .i64 c]) ∧ w'.ownsRow w.heap.size 3 1 (.slice la n lc) n xs ∧ n ≤ 4 := by
  obtain ⟨hb, ⟨_, rfl⟩ | ⟨_, d, _, rfl⟩ | ⟨h0, ms, v, h1, rfl, la, lc, rfl, hr⟩⟩ := h
  · exact ⟨hb, _, _, none, 0, _, _, _, 0, [], rfl, owns_none, by omega⟩
  · exact ⟨hb, _, _, none, 0, _, _, _, 0, [], rfl, owns_none, by omega⟩
  · exact ⟨hb, _, _, la, lc, _, _, _, ms.length, _, rfl, hr, lit_four h0 h1⟩
end
theorem Lw.far {H bb : Nat} {S : StatM} {st : St9} {w w' w'' : World} (h : Lw H S st w w') (hb : Below bb w' w'') (hH : H < bb) : Lw H S st w w'' :=
  ⟨h.low.trans (hb.mono (by omega)), h.rep.keep fun g hg => hb.block g (by omega), (hb.block _ hH).trans h.box⟩
/-- What stands while the answers are put into the book. -/
structure OW (H : Nat) (S : StatM) (st : St9) (l : LitM) (aa : Option Addr) (ac bb z1 z2 z3 m1 m2 m3 : Nat) (w wr : World) : Prop where
  lw : Lw H S st w wr
  lit : wr.heap[H + 1]? = some (.cells (litV l aa ac) 34 (0, 0))
  far : H + 1 < bb
  blt : bb < wr.heap.size
  emp : Empty3 bb wr
  k1 : ∃ rs V, KR 1 3 61 6000000000000 bb z1 wr rs V ∧ rs.length ≤ m1
  k2 : ∃ rs V, KR 2 9 22 1000000 bb z2 wr rs V ∧ rs.length ≤ m2
  k3 : ∃ rs V, KR 15 112 75 6000000000000 bb z3 wr rs V ∧ rs.length ≤ m3
section
variable {H : Nat} {S : StatM} {st : St9} {l : LitM} {aa : Option Addr} {ac bb z1 z2 z3 m1 m2 m3 : Nat} {w wr w2 : World}
theorem OW.below (h : OW H S st l aa ac bb z1 z2 z3 m1 m2 m3 w wr) (hb : Below wr.heap.size wr w2) : OW H S st l aa ac bb z1 z2 z3 m1 m2 m3 w w2 := by
  obtain ⟨r1, V1, k1, l1⟩ := h.k1
  obtain ⟨r2, V2, k2, l2⟩ := h.k2
  obtain ⟨r3, V3, k3, l3⟩ := h.k3
  have hl := h.blt
  have hf := h.far
  exact ⟨h.lw.below hb, (hb.block _ (by omega)).trans h.lit, h.far, Nat.lt_of_lt_of_le hl hb.size, h.emp.below hb hl, ⟨r1, V1, k1.below hl hb, l1⟩, ⟨r2, V2, k2.below hl hb, l2⟩, ⟨r3, V3, k3.below hl hb, l3⟩⟩
theorem OW.now (h : OW H S st l aa ac bb z1 z2 z3 m1 m2 m3 w wr) : OW H S st l aa ac bb wr.heap.size wr.heap.size wr.heap.size m1 m2 m3 w wr := by
  obtain ⟨r1, V1, k1, l1⟩ := h.k1
  obtain ⟨r2, V2, k2, l2⟩ := h.k2
  obtain ⟨r3, V3, k3, l3⟩ := h.k3
  exact ⟨h.lw, h.lit, h.far, h.blt, h.emp, ⟨r1, V1, k1.now, l1⟩, ⟨r2, V2, k2.now, l2⟩, ⟨r3, V3, k3.now, l3⟩⟩
theorem OW.bookI (h : OW H S st l aa ac bb z1 z2 z3 m1 m2 m3 w wr) (hm : m1 ≤ 1000) {Z1 N z' : Nat} {v : Value} {ps : List Value} (hz : z1 ≤ Z1) (hZ : bb + 1 ≤ Z1) (hz' : z1 ≤ z') (ho : wr.ownsRow Z1 3 1 v N ps) (hN : N ≤ 6000000000000) (hv : ∀ g, v.ownBlock = some g → g < z') :
    Calls Tryz.prog 8 #[ptr bb, v] wr fun e w2 => e = .returned (.tuple #[]) ∧ OW H S st l aa ac bb z' z2 z3 (m1 + 1) m2 m3 w w2 ∧ Pf 1 61 bb wr w2 := by
  obtain ⟨rs, V, k, hl⟩ := h.k1
  refine (bookI_any (by omega) k h.blt hz hZ hz' v ho hN hv).mono ?_
  rintro e w2 ⟨rfl, ⟨rs', V', k', hl'⟩, hp⟩
  obtain ⟨r2, V2, k2, l2⟩ := h.k2
  obtain ⟨r3, V3, k3, l3⟩ := h.k3
  have hlt := h.blt
  have hf := h.far
  exact ⟨rfl, ⟨h.lw.far hp.bel (by omega), (hp.bel.block _ (by omega)).trans h.lit, h.far, Nat.lt_of_lt_of_le hlt hp.size, h.emp.other hp (by omega), ⟨rs', V', k', by omega⟩, ⟨r2, V2, k2.other hp (by decide) (by decide) (by decide), l2⟩, ⟨r3, V3, k3.other hp (by decide) (by decide) (by decide), l3⟩⟩, hp⟩
theorem OW.bookS (h : OW H S st l aa ac bb z1 z2 z3 m1 m2 m3 w wr) (hm : m2 ≤ 1000) {Z1 N z' : Nat} {v : Value} {ps : List Value} (hz : z2 ≤ Z1) (hZ : bb + 1 ≤ Z1) (hz' : z2 ≤ z') (ho : wr.ownsRow Z1 9 1 v N ps) (hN : N ≤ 1000000) (hv : ∀ g, v.ownBlock = some g → g < z') :
    Calls Tryz.prog 7 #[ptr bb, v] wr fun e w2 => e = .returned (.tuple #[]) ∧ OW H S st l aa ac bb z1 z' z3 m1 (m2 + 1) m3 w w2 ∧ Pf 2 22 bb wr w2 := by
  obtain ⟨rs, V, k, hl⟩ := h.k2
  refine (bookS_any (by omega) k h.blt hz hZ hz' v ho hN hv).mono ?_
  rintro e w2 ⟨rfl, ⟨rs', V', k', hl'⟩, hp⟩
  obtain ⟨r1, V1, k1, l1⟩ := h.k1
  obtain ⟨r3, V3, k3, l3⟩ := h.k3
  have hlt := h.blt
  have hf := h.far
  exact ⟨rfl, ⟨h.lw.far hp.bel (by omega), (hp.bel.block _ (by omega)).trans h.lit, h.far, Nat.lt_of_lt_of_le hlt hp.size, h.emp.other hp (by omega), ⟨r1, V1, k1.other hp (by decide) (by decide) (by decide), l1⟩, ⟨rs', V', k', by omega⟩, ⟨r3, V3, k3.other hp (by decide) (by decide) (by decide), l3⟩⟩, hp⟩
theorem OW.bookK (h : OW H S st l aa ac bb z1 z2 z3 m1 m2 m3 w wr) (hm : m3 ≤ 1000) {Z1 N z' : Nat} {v : Value} {ps : List Value} (hz : z3 ≤ Z1) (hZ : bb + 1 ≤ Z1) (hz' : z3 ≤ z') (ho : wr.ownsRow Z1 112 1 v N ps) (hN : N ≤ 6000000000000) (hv : ∀ g, v.ownBlock = some g → g < z') :
    Calls Tryz.prog 10 #[ptr bb, v] wr fun e w2 => e = .returned (.tuple #[]) ∧ OW H S st l aa ac bb z1 z2 z' m1 m2 (m3 + 1) w w2 ∧ Pf 15 75 bb wr w2 := by
  obtain ⟨rs, V, k, hl⟩ := h.k3
  refine (bookK_any (by omega) k h.blt hz hZ hz' v ho hN hv).mono ?_
  rintro e w2 ⟨rfl, ⟨rs', V', k', hl'⟩, hp⟩
  obtain ⟨r1, V1, k1, l1⟩ := h.k1
  obtain ⟨r2, V2, k2, l2⟩ := h.k2
  have hlt := h.blt
  have hf := h.far
  exact ⟨rfl, ⟨h.lw.far hp.bel (by omega), (hp.bel.block _ (by omega)).trans h.lit, h.far, Nat.lt_of_lt_of_le hlt hp.size, h.emp.other hp (by omega), ⟨r1, V1, k1.other hp (by decide) (by decide) (by decide), l1⟩, ⟨r2, V2, k2.other hp (by decide) (by decide) (by decide), l2⟩, ⟨rs', V', k', by omega⟩⟩, hp⟩
end
end Go.Proofs.YtfnobccminhjpabGreat
/- ResolveOwn, walked. -/
namespace Go.Proofs.YtfnobccminhjpabGreat
open Go.RowKit Go.Shelf Go.Maps Go.WideMaps

theorem kr_start {F e f M bb Z : Nat} {w : World} (hc : w.cell? ⟨bb, F, none⟩ = some (.slice none 0 0)) (hf : w.frozen? ⟨bb, F, none⟩ = false) : ∃ rs V, KR F e f M bb Z w rs V ∧ rs.length ≤ 0 :=
  ⟨[], .slice none 0 0, ⟨hc, hf, ⟨rfl, .inl ⟨rfl, rfl⟩⟩, fun r hr => by simp at hr, List.Pairwise.nil, fun r hr => by simp at hr, fun r hr => by simp at hr, fun _ => rfl⟩, Nat.le_refl _⟩
section
variable {S : StatM} {st : St9} {w : World}
set_option maxRecDepth 100000 in
set_option maxHeartbeats 12800000 in
theorem own_walk (h : SR w.heap.size w S st) (hL : Lens S) (k : Int) (l : LitM) {aa : Option Addr} {ac : Nat} (hpr : l.pred.length ≤ maxLen) (hll : Strs w.heap.size w l.args (.slice aa l.args.length ac)) : Calls Tryz.prog 3 #[st.agg, .int .i64 k, .agg (litV l aa ac)] w fun e w' => e = .returned (.bool true) ∧ Below w.heap.size w w' := by
  obtain ⟨tt, ht⟩ := h.title
  obtain ⟨a1, b1, f1, _, _⟩ := h.kinds.form
  obtain ⟨a2, b2, f2, _, _⟩ := h.members.form
  obtain ⟨a3, b3, f3, _, _⟩ := h.preds.form
  obtain ⟨a4, b4, f4, _, _⟩ := h.classes.form
  obtain ⟨a5, b5, f5, _, _⟩ := h.sources.form
  obtain ⟨a6, b6, f6, _, _⟩ := h.rules.form
  obtain ⟨a7, b7, f7, _, _⟩ := h.excepts.form
  obtain ⟨a8, b8, f8, _, _⟩ := h.totals.form
  obtain ⟨s0, s1, s2, s3, s4, s5, s6, s7, s8⟩ := st
  simp only at ht f1 f2 f3 f4 f5 f6 f7 f8
  subst ht f1 f2 f3 f4 f5 f6 f7 f8
  have hA : Below w.heap.size w ((w.alloc (.cells #[.string tt, .slice a1 S.kinds.length b1, .slice a2 S.members.length b2, .slice a3 S.preds.length b3, .slice a4 S.classes.length b4, .slice a5 S.sources.length b5, .slice a6 S.rules.length b6, .slice a7 S.excepts.length b7, .slice a8 S.totals.length b8] 31)).alloc (.cells #[.bool l.neg, .string ⟨l.pred.toArray⟩, .slice aa l.args.length ac, .bool l.hasValue, .int .i64 l.value] 34)) := ((Below.refl _ w).alloc (Nat.le_refl _) _).alloc (by simp) _
  have hbx : ((w.alloc (.cells #[.string tt, .slice a1 S.kinds.length b1, .slice a2 S.members.length b2, .slice a3 S.preds.length b3, .slice a4 S.classes.length b4, .slice a5 S.sources.length b5, .slice a6 S.rules.length b6, .slice a7 S.excepts.length b7, .slice a8 S.totals.length b8] 31)).alloc (.cells #[.bool l.neg, .string ⟨l.pred.toArray⟩, .slice aa l.args.length ac, .bool l.hasValue, .int .i64 l.value] 34)).heap[w.heap.size]? = some (.cells #[.string tt, .slice a1 S.kinds.length b1, .slice a2 S.members.length b2, .slice a3 S.preds.length b3, .slice a4 S.classes.length b4, .slice a5 S.sources.length b5, .slice a6 S.rules.length b6, .slice a7 S.excepts.length b7, .slice a8 S.totals.length b8] 31 (0, 0)) := (Below.heap_alloc _ _ _ (by simp)).trans (heap_alloc_new w _)
  have hlx : ((w.alloc (.cells #[.string tt, .slice a1 S.kinds.length b1, .slice a2 S.members.length b2, .slice a3 S.preds.length b3, .slice a4 S.classes.length b4, .slice a5 S.sources.length b5, .slice a6 S.rules.length b6, .slice a7 S.excepts.length b7, .slice a8 S.totals.length b8] 31)).alloc (.cells #[.bool l.neg, .string ⟨l.pred.toArray⟩, .slice aa l.args.length ac, .bool l.hasValue, .int .i64 l.value] 34)).heap[w.heap.size + 1]? = some (.cells #[.bool l.neg, .string ⟨l.pred.toArray⟩, .slice aa l.args.length ac, .bool l.hasValue, .int .i64 l.value] 34 (0, 0)) := by
    have := heap_alloc_new (w.alloc (.cells #[.string tt, .slice a1 S.kinds.length b1, .slice a2 S.members.length b2, .slice a3 S.preds.length b3, .slice a4 S.classes.length b4, .slice a5 S.sources.length b5, .slice a6 S.rules.length b6, .slice a7 S.excepts.length b7, .slice a8 S.totals.length b8] 31)) (.cells #[.bool l.neg, .string ⟨l.pred.toArray⟩, .slice aa l.args.length ac, .bool l.hasValue, .int .i64 l.value] 34)
    simpa using this
  have K0 : Hid (Lw w.heap.size S ⟨.string tt, .slice a1 S.kinds.length b1, .slice a2 S.members.length b2, .slice a3 S.preds.length b3, .slice a4 S.classes.length b4, .slice a5 S.sources.length b5, .slice a6 S.rules.length b6, .slice a7 S.excepts.length b7, .slice a8 S.totals.length b8⟩ w ((w.alloc (.cells #[.string tt, .slice a1 S.kinds.length b1, .slice a2 S.members.length b2, .slice a3 S.preds.length b3, .slice a4 S.classes.length b4, .slice a5 S.sources.length b5, .slice a6 S.rules.length b6, .slice a7 S.excepts.length b7, .slice a8 S.totals.length b8] 31)).alloc (.cells #[.bool l.neg, .string ⟨l.pred.toArray⟩, .slice aa l.args.length ac, .bool l.hasValue, .int .i64 l.value] 34))) := hide ⟨hA, h.keep fun g hg => hA.block g hg, hbx⟩
  have HLX := hide hlx
  have CW := hide works_any
  have HLL := hide hll
  obtain ⟨H, hH⟩ : ∃ H, H = w.heap.size := ⟨_, rfl⟩
  rw [← hH] at K0 HLX HLL ⊢
  have HH := hide hH
  have HL := hide hL
  clear h hA hbx hlx hL hll
  unfold St9.agg litV
  simp only
  go_enter Tryz.func3, Tryz.ntmps3
  go_upto_region 3 with (first | (go_at_call 4; refine (CW.out _).mono ?_; rintro _ w1 ⟨rfl, hw1⟩; have K1 := hide (K0.out.below hw1); have HLX1 := hide ((hw1.block _ (loc_lt HLX.out)).trans HLX.out); clear hw1 CW K0 HLX))
  rw [← hH]
  clear hH
  go_upto_region 4 with fail
  have hq := heap_alloc_new w1 (.cells #[.slice none 0 0, .slice none 0 0, .slice none 0 0, .slice none 0 0, .slice none 0 0, .slice none 0 0, .slice none 0 0, .slice none 0 0, .slice none 0 0, .slice none 0 0, .slice none 0 0, .slice none 0 0, .slice none 0 0, .slice none 0 0, .slice none 0 0, .slice none 0 0, .slice none 0 0, .slice none 0 0, .slice none 0 0, .slice none 0 0, .slice none 0 0, .slice none 0 0, .slice none 0 0, .slice none 0 0] 60)
  have hbA : Below w1.heap.size w1 (w1.alloc (.cells #[.slice none 0 0, .slice none 0 0, .slice none 0 0, .slice none 0 0, .slice none 0 0, .slice none 0 0, .slice none 0 0, .slice none 0 0, .slice none 0 0, .slice none 0 0, .slice none 0 0, .slice none 0 0, .slice none 0 0, .slice none 0 0, .slice none 0 0, .slice none 0 0, .slice none 0 0, .slice none 0 0, .slice none 0 0, .slice none 0 0, .slice none 0 0, .slice none 0 0, .slice none 0 0, .slice none 0 0] 60)) := (Below.refl _ _).alloc (Nat.le_refl _) _
  have hbb : H + 1 < w1.heap.size := loc_lt HLX1.out
  have hc24 : ∀ f, f < 24 → (w1.alloc (.cells #[.slice none 0 0, .slice none 0 0, .slice none 0 0, .slice none 0 0, .slice none 0 0, .slice none 0 0, .slice none 0 0, .slice none 0 0, .slice none 0 0, .slice none 0 0, .slice none 0 0, .slice none 0 0, .slice none 0 0, .slice none 0 0, .slice none 0 0, .slice none 0 0, .slice none 0 0, .slice none 0 0, .slice none 0 0, .slice none 0 0, .slice none 0 0, .slice none 0 0, .slice none 0 0, .slice none 0 0] 60)).cell? ⟨w1.heap.size, f, none⟩ = some (.slice none 0 0) := by
    intro f hf
    rw [cell_of_row _ _ _ _ _ _ hq]
    rcases (show f = 0 ∨ f = 1 ∨ f = 2 ∨ f = 3 ∨ f = 4 ∨ f = 5 ∨ f = 6 ∨ f = 7 ∨ f = 8 ∨ f = 9 ∨ f = 10 ∨ f = 11 ∨ f = 12 ∨ f = 13 ∨ f = 14 ∨ f = 15 ∨ f = 16 ∨ f = 17 ∨ f = 18 ∨ f = 19 ∨ f = 20 ∨ f = 21 ∨ f = 22 ∨ f = 23 by omega) with rfl | rfl | rfl | rfl | rfl | rfl | rfl | rfl | rfl | rfl | rfl | rfl | rfl | rfl | rfl | rfl | rfl | rfl | rfl | rfl | rfl | rfl | rfl | rfl <;> rfl
  have hfz : ∀ f, (w1.alloc (.cells #[.slice none 0 0, .slice none 0 0, .slice none 0 0, .slice none 0 0, .slice none 0 0, .slice none 0 0, .slice none 0 0, .slice none 0 0, .slice none 0 0, .slice none 0 0, .slice none 0 0, .slice none 0 0, .slice none 0 0, .slice none 0 0, .slice none 0 0, .slice none 0 0, .slice none 0 0, .slice none 0 0, .slice none 0 0, .slice none 0 0, .slice none 0 0, .slice none 0 0, .slice none 0 0, .slice none 0 0] 60)).frozen? ⟨w1.heap.size, f, none⟩ = false := fun f => frozen_of_row _ _ f _ _ hq
  have HA : Hid (OW H S ⟨.string tt, .slice a1 S.kinds.length b1, .slice a2 S.members.length b2, .slice a3 S.preds.length b3, .slice a4 S.classes.length b4, .slice a5 S.sources.length b5, .slice a6 S.rules.length b6, .slice a7 S.excepts.length b7, .slice a8 S.totals.length b8⟩ l aa ac w1.heap.size (w1.heap.size + 1) (w1.heap.size + 1) (w1.heap.size + 1) 0 0 0 w (w1.alloc (.cells #[.slice none 0 0, .slice none 0 0, .slice none 0 0, .slice none 0 0, .slice none 0 0, .slice none 0 0, .slice none 0 0, .slice none 0 0, .slice none 0 0, .slice none 0 0, .slice none 0 0, .slice none 0 0, .slice none 0 0, .slice none 0 0, .slice none 0 0, .slice none 0 0, .slice none 0 0, .slice none 0 0, .slice none 0 0, .slice none 0 0, .slice none 0 0, .slice none 0 0, .slice none 0 0, .slice none 0 0] 60))) := hide ⟨K1.out.below hbA, (hbA.block _ hbb).trans HLX1.out, hbb, by simp, fun f hf _ _ _ => hc24 f hf, kr_start (hc24 1 (by decide)) (hfz 1), kr_start (hc24 2 (by decide)) (hfz 2), kr_start (hc24 15 (by decide)) (hfz 15)⟩
  clear hq hbA hc24 hfz K1 HLX1 hbb
  generalize (w1.alloc (.cells #[.slice none 0 0, .slice none 0 0, .slice none 0 0, .slice none 0 0, .slice none 0 0, .slice none 0 0, .slice none 0 0, .slice none 0 0, .slice none 0 0, .slice none 0 0, .slice none 0 0, .slice none 0 0, .slice none 0 0, .slice none 0 0, .slice none 0 0, .slice none 0 0, .slice none 0 0, .slice none 0 0, .slice none 0 0, .slice none 0 0, .slice none 0 0, .slice none 0 0, .slice none 0 0, .slice none 0 0] 60)) = wA at *
  generalize w1.heap.size = bb at *
  have HA2 := hide HA.out.now
  clear HA
  go_wp2_with fail
  go_loopw [8] (fun x wr => ∃ i : Nat, i ≤ 2 ∧ x = .int .i64 i ∧ Hid (OW H S ⟨.string tt, .slice a1 S.kinds.length b1, .slice a2 S.members.length b2, .slice a3 S.preds.length b3, .slice a4 S.classes.length b4, .slice a5 S.sources.length b5, .slice a6 S.rules.length b6, .slice a7 S.excepts.length b7, .slice a8 S.totals.length b8⟩ l aa ac bb wr.heap.size wr.heap.size wr.heap.size (4 * i) i i w wr)) (fun x _ => 2 - (intOf x).toNat)
  case atStart => exact ⟨0, by omega, rfl, HA2⟩
  case round =>
    clear HA2
    obtain ⟨i, hi, rfl, K⟩ := hrel
    by_cases hlt : i < 2
    case neg =>
      have hie : i = 2 := by omega
      subst hie
      obtain ⟨r1, V1, k1, n1⟩ := K.out.k1
      obtain ⟨r2, V2, k2, n2⟩ := K.out.k2
      obtain ⟨r3, V3, k3, n3⟩ := K.out.k3
      have CA := hide (apart_all K.out.emp k1 k2 k3 (by omega) (by omega) (by omega))
      have hfar := K.out.far
      clear k1 k2 k3 n1 n2 n3
      go_wp2_with fail
      refine CA.out.mono ?_
      rintro _ w4 ⟨rfl, hb4⟩
      go_wp2_with fail
      go_ret
      exact ⟨rfl, K.out.lw.low.trans (hb4.mono (by omega))⟩
    obtain ⟨c0, c1, c2, c3, c4, c5, c6, c7, c8, cf⟩ := K.out.lw.cells
    simp only at c0 c1 c2 c3 c4 c5 c6 c7 c8
    clear cf
    have CV := hide (vars_any K.out.lw.sr k)
    unfold St9.agg at CV
    simp only at CV
    have hfar := K.out.far
    have hblt := K.out.blt
    go_upto_region 8 with (first | (go_at_call 5; refine CV.out.mono ?_; intro e w2 hE; obtain ⟨hb2, na, nc, ka, kc, cc, n2, xs2, ys2, rfl, hnv, hkv, hn2⟩ := ex_rows hE; have K2 := hide (K.out.below hb2); have RN := hide hnv; have RK := hide hkv; have hsz2 := hb2.size; clear hE hb2 hnv hkv CV c0 c1 c2 c3 c4 c5 c6 c7 c8))
    obtain ⟨c0, c1, c2, c3, c4, c5, c6, c7, c8, cf⟩ := K2.out.lw.cells
    simp only at c0 c1 c2 c3 c4 c5 c6 c7 c8
    clear cf
    obtain ⟨l0, l1, l2, l3, l4⟩ := lit_box K2.out.lit
    have CL := hide (literal_any K2.out.lw.sr l (aa := aa) (ac := ac) hpr (Strs.mono (by have := loc_lt K2.out.lw.box; omega) (HLL.out.keep fun g hg => K2.out.lw.low.block g hg)))
    unfold St9.agg litV at CL
    simp only at CL
    go_upto_region 9 with (first | (go_at_call 6; refine CL.out.mono ?_; intro e w3 hE; obtain ⟨hb3, y0, y1, la, lc, y3, y4, c9, n3, xs3, rfl, hlv, hn3⟩ := et_rows hE; have K3 := hide (K2.out.below hb3); have RN3 := hide (owns_keep RN.out fun g hg => hb3.block g (owns_lt RN.out hg)); have RK3 := hide (owns_keep RK.out fun g hg => hb3.block g (owns_lt RK.out hg)); have RL := hide hlv; have hsz3 := hb3.size; have HK2 := hide (fun g (hg : (Value.slice ka n2 kc).ownBlock = some g) => owns_lt RK.out hg); clear hE hb3 hlv CL c0 c1 c2 c3 c4 c5 c6 c7 c8 l0 l1 l2 l3 l4 K2 RN RK))
    have hA4 : Below w3.heap.size w3 (w3.alloc (.cells #[.bool y0, .int .i64 y1, .slice la n3 lc, .int .i64 y3, .int .i64 y4] 68)) := (Below.refl _ _).alloc (Nat.le_refl _) _
    have K4 := hide (K3.out.below hA4)
    have RN4 := hide (owns_keep RN3.out fun g hg => hA4.block g (owns_lt RN3.out hg))
    have RK4 := hide (owns_keep RK3.out fun g hg => hA4.block g (owns_lt RK3.out hg))
    have RL4 := hide (owns_keep RL.out fun g hg => hA4.block g (owns_lt RL.out hg))
    have HLB := hide (heap_alloc_new w3 (.cells #[.bool y0, .int .i64 y1, .slice la n3 lc, .int .i64 y3, .int .i64 y4] 68))
    have hsz4 := hA4.size
    clear hA4 K3 RN3 RK3 RL K
    generalize (w3.alloc (.cells #[.bool y0, .int .i64 y1, .slice la n3 lc, .int .i64 y3, .int .i64 y4] 68)) = w4 at *
    generalize w3.heap.size = lb at *
    have hlb : lb ≠ bb := by omega
    have CS := hide (K4.out.bookS (by omega) (Z1 := wr.heap.size) (z' := w4.heap.size) (Nat.le_refl _) hblt (by omega) RN4.out (by omega) (fun g hg => owns_lt RN4.out hg))
    go_upto_region 10 with (first | (go_at_call 7; refine CS.out.mono ?_; rintro _ w5 ⟨rfl, hK5, hp5⟩; have K5 := hide hK5; have RK5 := hide (hp5.row _ _ _ _ _ _ hblt (by decide) RK4.out); have RL5 := hide (hp5.row _ _ _ _ _ _ (by omega) (by decide) RL4.out); have HLB5 := hide ((hp5.blk _ _ _ _ HLB.out (by decide) hlb).trans HLB.out); have hsz5 := hp5.size; clear CS hK5 hp5 K4 RN4 RK4 RL4 HLB))
    have CI := hide (K5.out.bookI (by omega) (Z1 := wr.heap.size) (z' := w2.heap.size) (Nat.le_refl _) hblt (by omega) RK5.out (by omega) HK2.out)
    go_upto_region 11 with (first | (go_at_call 8; refine CI.out.mono ?_; rintro _ w6 ⟨rfl, hK6, hp6⟩; have K6 := hide hK6; have RL6 := hide (hp6.row _ _ _ _ _ _ (by omega) (by decide) RL5.out); have HLB6 := hide ((hp6.blk _ _ _ _ HLB5.out (by decide) hlb).trans HLB5.out); have hsz6 := hp6.size; clear CI hK6 hp6 K5 RK5 RL5 HLB5 HK2))
    obtain ⟨-, -, l2, -, -⟩ := lit_box HLB6.out
    have CI := hide (K6.out.bookI (by omega) (Z1 := w2.heap.size) (z' := w6.heap.size) (Nat.le_refl _) (by omega) (by omega) RL6.out (by omega) (fun g hg => owns_lt RL6.out hg))
    go_upto_region 12 with (first | (go_at_call 8; refine CI.out.mono ?_; rintro _ w7 ⟨rfl, hK7, hp7⟩; have K7 := hide hK7.now; have hsz7 := hp7.size; clear CI hK7 hp7 K6 RL6 HLB6 l2))
    obtain ⟨c0, c1, c2, c3, c4, c5, c6, c7, c8, cf⟩ := K7.out.lw.cells
    simp only at c0 c1 c2 c3 c4 c5 c6 c7 c8
    clear cf
    have hblt7 := K7.out.blt
    have CC := hide (class_any' K7.out.lw.sr HL.out.preds)
    have hpl := HL.out.preds
    unfold St9.agg at CC
    simp only at CC
    go_upto_region 13 with (first | (go_at_call 9; refine CC.out.mono ?_; rintro _ w8 ⟨v8, rfl, hv8, hb8⟩; have K8 := hide (K7.out.below hb8); have CI := hide (K8.out.bookI (by omega) (Z1 := w7.heap.size) (z' := w8.heap.size) (Nat.le_refl _) hblt7 hb8.size hv8 (by omega) (fun g hg => owns_lt hv8 hg)); clear hv8 hb8 CC K7 c0 c1 c2 c3 c4 c5 c6 c7 c8) | (go_at_call 8; refine CI.out.mono ?_; rintro _ w9 ⟨rfl, hK9, hp9⟩; have K9 := hide hK9.now; clear CI hK9 hp9 K8))
    obtain ⟨c0, c1, c2, c3, c4, c5, c6, c7, c8, cf⟩ := K9.out.lw.cells
    simp only at c0 c1 c2 c3 c4 c5 c6 c7 c8
    clear cf
    have hblt9 := K9.out.blt
    have CC := hide (sorts_any K9.out.lw.sr HL.out.preds)
    unfold St9.agg at CC
    simp only at CC
    go_upto_region 14 with (first | (go_at_call 11; refine CC.out.mono ?_; rintro _ wa ⟨va, rfl, hva, hba⟩; have Ka := hide (K9.out.below hba); have CI := hide (Ka.out.bookK (by omega) (Z1 := w9.heap.size) (z' := wa.heap.size) (Nat.le_refl _) hblt9 hba.size hva (by omega) (fun g hg => owns_lt hva hg)); clear hva hba CC K9 c0 c1 c2 c3 c4 c5 c6 c7 c8) | (go_at_call 10; refine CI.out.mono ?_; rintro _ wb ⟨rfl, hKb, hpb⟩; have Kb := hide hKb.now; clear CI hKb hpb Ka))
    obtain ⟨c0, c1, c2, c3, c4, c5, c6, c7, c8, cf⟩ := Kb.out.lw.cells
    simp only at c0 c1 c2 c3 c4 c5 c6 c7 c8
    clear cf
    have hbltb := Kb.out.blt
    have CC := hide (of_any Kb.out.lw.sr HL.out.members 0)
    have hml : (ofL S.kinds 0 S.members).length ≤ S.members.length := by have := ofL_le (kinds := S.kinds) (k := 0) (l := S.members) S.members.length; rwa [List.take_length] at this
    have hml2 := HL.out.members
    unfold St9.agg at CC
    simp only at CC
    generalize ofL S.kinds 0 S.members = ol at *
    go_wp2_with (first | (go_at_call 12; refine CC.out.mono ?_; rintro _ wc ⟨vc, rfl, hvc, hbc⟩; have Kc := hide (Kb.out.below hbc); have CI := hide (Kc.out.bookI (by omega) (Z1 := wb.heap.size) (z' := wc.heap.size) (Nat.le_refl _) hbltb hbc.size hvc (by omega) (fun g hg => owns_lt hvc hg)); clear hvc hbc CC Kb c0 c1 c2 c3 c4 c5 c6 c7 c8) | (go_at_call 8; refine CI.out.mono ?_; rintro _ wd ⟨rfl, hKd, hpd⟩; have Kd := hide hKd.now; clear CI hKd hpd Kc))
    go_roundw
    case rel => exact ⟨i + 1, by omega, by go_num, Kd⟩
    case measure => simp [intOf]; omega
end
end Go.Proofs.YtfnobccminhjpabGreat
