/- ResolveLiteral walked. By program (tools/gen8/litw9.py). -/
import Derived.Test.YtfnobccminhjpaaGreatRli9
import Derived.Test.YtfnobccminhjpaaGreatLrg9
import Derived.Test.YtfnobccminhjpaaGreatSamX9
import Derived.Test.YtfnobccminhjpaaGreatOft
import Derived.Test.YtfnobccminhjpaaGreatWork9
import Derived.Deep.Cut
namespace Go.Proofs.YtfnobccminhjpaaGreat
open Go.RowKit Go.Shelf Go.Maps Go.WideMaps
open Rg

theorem arr49 {tm : Array Value} (h : tm.size = 49) : ∃ x0 x1 x2 x3 x4 x5 x6 x7 x8 x9 x10 x11 x12 x13 x14 x15 x16 x17 x18 x19 x20 x21 x22 x23 x24 x25 x26 x27 x28 x29 x30 x31 x32 x33 x34 x35 x36 x37 x38 x39 x40 x41 x42 x43 x44 x45 x46 x47 x48, tm = #[x0, x1, x2, x3, x4, x5, x6, x7, x8, x9, x10, x11, x12, x13, x14, x15, x16, x17, x18, x19, x20, x21, x22, x23, x24, x25, x26, x27, x28, x29, x30, x31, x32, x33, x34, x35, x36, x37, x38, x39, x40, x41, x42, x43, x44, x45, x46, x47, x48] := by
  obtain ⟨l0⟩ := tm
  have h0 : l0.length = 49 := h
  clear h
  obtain ⟨x0, l1, rfl, h1⟩ := list_head h0
  obtain ⟨x1, l2, rfl, h2⟩ := list_head h1
  obtain ⟨x2, l3, rfl, h3⟩ := list_head h2
  obtain ⟨x3, l4, rfl, h4⟩ := list_head h3
  obtain ⟨x4, l5, rfl, h5⟩ := list_head h4
  obtain ⟨x5, l6, rfl, h6⟩ := list_head h5
  obtain ⟨x6, l7, rfl, h7⟩ := list_head h6
  obtain ⟨x7, l8, rfl, h8⟩ := list_head h7
  obtain ⟨x8, l9, rfl, h9⟩ := list_head h8
  obtain ⟨x9, l10, rfl, h10⟩ := list_head h9
  obtain ⟨x10, l11, rfl, h11⟩ := list_head h10
  obtain ⟨x11, l12, rfl, h12⟩ := list_head h11
  obtain ⟨x12, l13, rfl, h13⟩ := list_head h12
  obtain ⟨x13, l14, rfl, h14⟩ := list_head h13
  obtain ⟨x14, l15, rfl, h15⟩ := list_head h14
  obtain ⟨x15, l16, rfl, h16⟩ := list_head h15
  obtain ⟨x16, l17, rfl, h17⟩ := list_head h16
  obtain ⟨x17, l18, rfl, h18⟩ := list_head h17
  obtain ⟨x18, l19, rfl, h19⟩ := list_head h18
  obtain ⟨x19, l20, rfl, h20⟩ := list_head h19
  obtain ⟨x20, l21, rfl, h21⟩ := list_head h20
  obtain ⟨x21, l22, rfl, h22⟩ := list_head h21
  obtain ⟨x22, l23, rfl, h23⟩ := list_head h22
  obtain ⟨x23, l24, rfl, h24⟩ := list_head h23
  obtain ⟨x24, l25, rfl, h25⟩ := list_head h24
  obtain ⟨x25, l26, rfl, h26⟩ := list_head h25
  obtain ⟨x26, l27, rfl, h27⟩ := list_head h26
  obtain ⟨x27, l28, rfl, h28⟩ := list_head h27
  obtain ⟨x28, l29, rfl, h29⟩ := list_head h28
  obtain ⟨x29, l30, rfl, h30⟩ := list_head h29
  obtain ⟨x30, l31, rfl, h31⟩ := list_head h30
  obtain ⟨x31, l32, rfl, h32⟩ := list_head h31
  obtain ⟨x32, l33, rfl, h33⟩ := list_head h32
  obtain ⟨x33, l34, rfl, h34⟩ := list_head h33
  obtain ⟨x34, l35, rfl, h35⟩ := list_head h34
  obtain ⟨x35, l36, rfl, h36⟩ := list_head h35
  obtain ⟨x36, l37, rfl, h37⟩ := list_head h36
  obtain ⟨x37, l38, rfl, h38⟩ := list_head h37
  obtain ⟨x38, l39, rfl, h39⟩ := list_head h38
  obtain ⟨x39, l40, rfl, h40⟩ := list_head h39
  obtain ⟨x40, l41, rfl, h41⟩ := list_head h40
  obtain ⟨x41, l42, rfl, h42⟩ := list_head h41
  obtain ⟨x42, l43, rfl, h43⟩ := list_head h42
  obtain ⟨x43, l44, rfl, h44⟩ := list_head h43
  obtain ⟨x44, l45, rfl, h45⟩ := list_head h44
  obtain ⟨x45, l46, rfl, h46⟩ := list_head h45
  obtain ⟨x46, l47, rfl, h47⟩ := list_head h46
  obtain ⟨x47, l48, rfl, h48⟩ := list_head h47
  obtain ⟨x48, l49, rfl, h49⟩ := list_head h48
  have e : l49 = [] := List.eq_nil_of_length_eq_zero h49
  subst e
  exact ⟨x0, x1, x2, x3, x4, x5, x6, x7, x8, x9, x10, x11, x12, x13, x14, x15, x16, x17, x18, x19, x20, x21, x22, x23, x24, x25, x26, x27, x28, x29, x30, x31, x32, x33, x34, x35, x36, x37, x38, x39, x40, x41, x42, x43, x44, x45, x46, x47, x48, rfl⟩
theorem arr9 {tm : Array Value} (h : tm.size = 9) : ∃ x0 x1 x2 x3 x4 x5 x6 x7 x8, tm = #[x0, x1, x2, x3, x4, x5, x6, x7, x8] := by
  obtain ⟨l0⟩ := tm
  have h0 : l0.length = 9 := h
  clear h
  obtain ⟨x0, l1, rfl, h1⟩ := list_head h0
  obtain ⟨x1, l2, rfl, h2⟩ := list_head h1
  obtain ⟨x2, l3, rfl, h3⟩ := list_head h2
  obtain ⟨x3, l4, rfl, h4⟩ := list_head h3
  obtain ⟨x4, l5, rfl, h5⟩ := list_head h4
  obtain ⟨x5, l6, rfl, h6⟩ := list_head h5
  obtain ⟨x6, l7, rfl, h7⟩ := list_head h6
  obtain ⟨x7, l8, rfl, h8⟩ := list_head h7
  obtain ⟨x8, l9, rfl, h9⟩ := list_head h8
  have e : l9 = [] := List.eq_nil_of_length_eq_zero h9
  subst e
  exact ⟨x0, x1, x2, x3, x4, x5, x6, x7, x8, rfl⟩
theorem arr5 {tm : Array Value} (h : tm.size = 5) : ∃ x0 x1 x2 x3 x4, tm = #[x0, x1, x2, x3, x4] := by
  obtain ⟨l0⟩ := tm
  have h0 : l0.length = 5 := h
  clear h
  obtain ⟨x0, l1, rfl, h1⟩ := list_head h0
  obtain ⟨x1, l2, rfl, h2⟩ := list_head h1
  obtain ⟨x2, l3, rfl, h3⟩ := list_head h2
  obtain ⟨x3, l4, rfl, h4⟩ := list_head h3
  obtain ⟨x4, l5, rfl, h5⟩ := list_head h4
  have e : l5 = [] := List.eq_nil_of_length_eq_zero h5
  subst e
  exact ⟨x0, x1, x2, x3, x4, rfl⟩
abbrev St9.cs (st : St9) : List Value := [st.title, st.kinds, st.members, st.preds, st.classes, st.sources, st.rules, st.excepts, st.totals]
/-- What Literal answers, of both. -/
def outM (S : StatM) (l : LitM) : Bool × Int × List Nat × Int × Int :=
  if (checkM S).1 = 0 then match literalGM S.ctx l with
    | .error d => (false, 0, [], 0, d)
    | .ok ms => (l.neg, (posB S.ctx.names l.pred : Nat), ms, l.value, 0)
  else (false, 0, [], 0, (checkM S).1)
theorem Et.out {S : StatM} {l : LitM} {w w' : World} {e : Ending} (h : Et S l w (checkM S).1 (literalGM S.ctx l) e w') : ∃ a c, e = .returned (.tuple #[.agg #[.bool (outM S l).1, .int .i64 (outM S l).2.1, .slice a (outM S l).2.2.1.length c, .int .i64 (outM S l).2.2.2.1, .int .i64 0], .int .i64 (outM S l).2.2.2.2]) ∧ Below w.heap.size w w' ∧ w'.ownsRow w.heap.size 3 1 (.slice a (outM S l).2.2.1.length c) (outM S l).2.2.1.length (nats (outM S l).2.2.1) := by
  obtain ⟨hb, h⟩ := h
  unfold outM
  rcases h with ⟨hc, rfl⟩ | ⟨hc, d, ho, rfl⟩ | ⟨hc, ms, v, ho, rfl, a, c, rfl, hr⟩
  · rw [if_neg hc]
    exact ⟨none, 0, rfl, hb, ⟨rfl, .inl ⟨rfl, rfl⟩⟩⟩
  · rw [if_pos hc, ho]
    exact ⟨none, 0, rfl, hb, ⟨rfl, .inl ⟨rfl, rfl⟩⟩⟩
  · rw [if_pos hc, ho]
    exact ⟨a, c, rfl, hb, hr⟩
theorem argsG_len {C : Ctx} : ∀ (l q : List Bytes) (ms x : List Nat), argsGM C ms l q = .ok x → x.length ≤ ms.length + l.length
  | [], _, ms, x, h => by unfold argsGM at h; cases h; simp
  | _ :: _, [], ms, x, h => by unfold argsGM at h; cases h; omega
  | s :: r, k :: q, ms, x, h => by
    cases hv : isVarB s with
    | true => rw [argsG_var hv] at h; cases h
    | false =>
      rw [argsG_step hv] at h
      cases ha : arg1M C [] s k with
      | error c => rw [ha] at h; cases h
      | ok u =>
        rw [ha] at h
        have := argsG_len r q _ x h
        simp only [List.length_append, List.length_cons, List.length_nil] at this ⊢
        omega
theorem bind_ok {α β : Type} {x : Er α} {f : α → Er β} {b : β} (h : (x >>= f) = .ok b) : ∃ a, x = .ok a ∧ f a = .ok b := by
  cases x with
  | error c => cases h
  | ok a => exact ⟨a, rfl, h⟩
theorem lit_len {C : Ctx} {l : LitM} {ms : List Nat} (h : literalGM C l = .ok ms) : ms.length ≤ l.args.length := by
  unfold literalGM at h
  obtain ⟨p, _, h⟩ := bind_ok h
  obtain ⟨_, _, h⟩ := bind_ok h
  obtain ⟨x, hx, h⟩ := bind_ok h
  obtain ⟨_, _, h⟩ := bind_ok h
  obtain ⟨_, _, h⟩ := bind_ok h
  obtain ⟨_, _, h⟩ := bind_ok h
  cases h
  unfold argumentsGM at hx
  obtain ⟨_, _, hx⟩ := bind_ok hx
  simpa using argsG_len _ _ _ _ hx
theorem out_len (S : StatM) (l : LitM) : (outM S l).2.2.1.length ≤ l.args.length := by
  unfold outM
  split
  · split
    · simp
    · exact lit_len ‹_›
  · simp
/-- Behind the copies: the boxes, the copies in memory. -/
structure Rs (S : StatM) (st' : St9) (l : LitM) (ys SVl LVl : List Value) (w : World) (b c : Nat) (W : World) : Prop where
  low : Below w.heap.size w W
  b0 : W.heap[w.heap.size]? = some (.cells SVl.toArray 31 (0, 0))
  b1 : W.heap[w.heap.size + 1]? = some (.cells LVl.toArray 59 (0, 0))
  b2 : W.heap[b]? = some (.cells st'.cs.toArray 31 (0, 0))
  b3 : W.heap[c]? = some (.cells ys.toArray 59 (0, 0))
  title : st'.title = str S.title
  sr : SR W.heap.size W S st'
  lt : cLit W.heap.size W l ys
theorem Rs.call {S : StatM} {st' : St9} {l : LitM} {ys SVl LVl : List Value} {w : World} {b c : Nat} {W W' : World} (h : Rs S st' l ys SVl LVl w b c W) (hb : Below W.heap.size W W') : Rs S st' l ys SVl LVl w b c W' :=
  ⟨h.low.trans (hb.mono h.low.size), (hb.block _ (loc_lt h.b0)).trans h.b0, (hb.block _ (loc_lt h.b1)).trans h.b1, (hb.block _ (loc_lt h.b2)).trans h.b2, (hb.block _ (loc_lt h.b3)).trans h.b3, h.title, SR.go hb h.sr, cLit.go hb h.lt⟩
set_option maxRecDepth 100000 in
set_option maxHeartbeats 12800000 in
theorem literal_walk {S : StatM} {st : St9} {w : World} (h : SR w.heap.size w S st) (ht : st.title = str S.title) (hz : SzS S) (l : LitM) (hpr : l.pred.length ≤ maxLen) {aa : Option Addr} {ac : Nat} (hll : Strs w.heap.size w l.args (.slice aa l.args.length ac)) (hzl : szL l) :
    Calls Tryz.prog 5 #[st.agg, .agg #[.bool l.neg, .string ⟨l.pred.toArray⟩, .slice aa l.args.length ac, .bool l.hasValue, .int .i64 l.value]] w fun e w' => e = .returned (.bool true) ∧ Below w.heap.size w w' := by
  obtain ⟨a1, b1, f1, _, _⟩ := h.kinds.form
  obtain ⟨a2, b2, f2, _, _⟩ := h.members.form
  obtain ⟨a3, b3, f3, _, _⟩ := h.preds.form
  obtain ⟨a4, b4, f4, _, _⟩ := h.classes.form
  obtain ⟨a5, b5, f5, _, _⟩ := h.sources.form
  obtain ⟨a6, b6, f6, _, _⟩ := h.rules.form
  obtain ⟨a7, b7, f7, _, _⟩ := h.excepts.form
  obtain ⟨a8, b8, f8, _, _⟩ := h.totals.form
  obtain ⟨s0, s1, s2, s3, s4, s5, s6, s7, s8⟩ := st
  simp only at ht f1 f2 f3 f4 f5 f6 f7 f8
  subst ht f1 f2 f3 f4 f5 f6 f7 f8
  have HS := hide h
  have HZ := hide hz
  have HLL := hide hll
  have HZL := hide hzl
  have HPR := hide hpr
  clear h hz hll hzl hpr
  unfold str at *
  show Calls Tryz.prog 5 #[.agg #[.string ⟨S.title.toArray⟩, .slice a1 S.kinds.length b1, .slice a2 S.members.length b2, .slice a3 S.preds.length b3, .slice a4 S.classes.length b4, .slice a5 S.sources.length b5, .slice a6 S.rules.length b6, .slice a7 S.excepts.length b7, .slice a8 S.totals.length b8], .agg #[.bool l.neg, .string ⟨l.pred.toArray⟩, .slice aa l.args.length ac, .bool l.hasValue, .int .i64 l.value]] w _
  obtain ⟨hA, h1, h2⟩ := two_boxes9 w (.cells #[.string ⟨S.title.toArray⟩, .slice a1 S.kinds.length b1, .slice a2 S.members.length b2, .slice a3 S.preds.length b3, .slice a4 S.classes.length b4, .slice a5 S.sources.length b5, .slice a6 S.rules.length b6, .slice a7 S.excepts.length b7, .slice a8 S.totals.length b8] 31) (.cells #[.bool l.neg, .string ⟨l.pred.toArray⟩, .slice aa l.args.length ac, .bool l.hasValue, .int .i64 l.value] 59)
  have HA := hide hA
  have HB0 := hide h1
  have HB1 := hide h2
  clear hA h1 h2
  go_enter Tryz.func5, Tryz.ntmps5
  go_upto_region 1 with fail
  generalize (w.alloc (.cells #[.string ⟨S.title.toArray⟩, .slice a1 S.kinds.length b1, .slice a2 S.members.length b2, .slice a3 S.preds.length b3, .slice a4 S.classes.length b4, .slice a5 S.sources.length b5, .slice a6 S.rules.length b6, .slice a7 S.excepts.length b7, .slice a8 S.totals.length b8] 31)).alloc (.cells #[.bool l.neg, .string ⟨l.pred.toArray⟩, .slice aa l.args.length ac, .bool l.hasValue, .int .i64 l.value] 59) = W0 at *
  go_cut [5, 6] from 11 to 14 (fun p q wx => ∃ (b c : Nat) (st' : St9) (ys : List Value), p = ptr b ∧ q = ptr c ∧ Hid (Rs S st' l ys [.string ⟨S.title.toArray⟩, .slice a1 S.kinds.length b1, .slice a2 S.members.length b2, .slice a3 S.preds.length b3, .slice a4 S.classes.length b4, .slice a5 S.sources.length b5, .slice a6 S.rules.length b6, .slice a7 S.excepts.length b7, .slice a8 S.totals.length b8] [.bool l.neg, .string ⟨l.pred.toArray⟩, .slice aa l.args.length ac, .bool l.hasValue, .int .i64 l.value] w b c wx))
  case first =>
    refine region_j NoE (Jl S ⟨.string ⟨S.title.toArray⟩, .slice a1 S.kinds.length b1, .slice a2 S.members.length b2, .slice a3 S.preds.length b3, .slice a4 S.classes.length b4, .slice a5 S.sources.length b5, .slice a6 S.rules.length b6, .slice a7 S.excepts.length b7, .slice a8 S.totals.length b8⟩ l [.bool l.neg, .string ⟨l.pred.toArray⟩, .slice aa l.args.length ac, .bool l.hasValue, .int .i64 l.value] w.heap.size W0.drew) (by kernel_rfl) (by kernel_rfl) ?_ (steps_j ⟨?_, ?_, ?_, ?_, ?_, ?_, ?_, ?_, trivial⟩) ?_ ?_
    · exact ⟨Below.refl _ _, rfl, rfl, fun e => by (cases e), fun e => by (cases e), fun e => by (cases e), fun e => by (cases e), fun e => by (cases e), fun e => by (cases e), fun e => by (cases e), fun e => by (cases e)⟩
    · intro ρ W L hc hf hL hd _ hJ
      have k2 : ρ (.tmp 2) = ptr w.heap.size := hJ.s2
      have q : W.heap[w.heap.size]? = some (.cells #[.string ⟨S.title.toArray⟩, .slice a1 S.kinds.length b1, .slice a2 S.members.length b2, .slice a3 S.preds.length b3, .slice a4 S.classes.length b4, .slice a5 S.sources.length b5, .slice a6 S.rules.length b6, .slice a7 S.excepts.length b7, .slice a8 S.totals.length b8] 31 (0, 0)) := (hJ.low.block _ (loc_lt HB0.out)).trans HB0.out
      have y0 := cell_of_row W _ 0 _ _ _ q
      have y1 := cell_of_row W _ 1 _ _ _ q
      have y2 := cell_of_row W _ 2 _ _ _ q
      have y3 := cell_of_row W _ 3 _ _ _ q
      have y4 := cell_of_row W _ 4 _ _ _ q
      have y5 := cell_of_row W _ 5 _ _ _ q
      have y6 := cell_of_row W _ 6 _ _ _ q
      have y7 := cell_of_row W _ 7 _ _ _ q
      have y8 := cell_of_row W _ 8 _ _ _ q
      simp only [List.getElem?_toArray, List.getElem?_cons_zero, List.getElem?_cons_succ] at y0 y1 y2 y3 y4 y5 y6 y7 y8
      refine does_value (v := .agg #[.string ⟨S.title.toArray⟩, .slice a1 S.kinds.length b1, .slice a2 S.members.length b2, .slice a3 S.preds.length b3, .slice a4 S.classes.length b4, .slice a5 S.sources.length b5, .slice a6 S.rules.length b6, .slice a7 S.excepts.length b7, .slice a8 S.totals.length b8]) (w' := W) ?_ (hJ.same (Below.refl _ _) (by omega) ⟨by simp, by simp, by simp, by simp⟩ (.inl rfl) (.inr (by simp)) (.inr (by simp)) (.inr (by simp)) (fun _ => ⟨rfl, rfl⟩) (fun e => by (cases e)) (fun e => by (cases e)) (fun e => by (cases e)))
      clear hc hf hL hd hJ q
      go_simp
    · intro ρ W L hc hf hL hd _ hJ
      have h0 : L 0 = true := hd ⟨0, .data⟩ (by simp) rfl
      have k11 : ρ (.tmp 11) = .agg #[.string ⟨S.title.toArray⟩, .slice a1 S.kinds.length b1, .slice a2 S.members.length b2, .slice a3 S.preds.length b3, .slice a4 S.classes.length b4, .slice a5 S.sources.length b5, .slice a6 S.rules.length b6, .slice a7 S.excepts.length b7, .slice a8 S.totals.length b8] := hJ.s11 h0
      have h6 : L 6 = false := by
        cases e : L 6 with
        | false => rfl
        | true => rw [(hJ.o6 e).1] at hL; cases hL
      have kf := hf 7
      have hsr : SR W.heap.size W S ⟨.string ⟨S.title.toArray⟩, .slice a1 S.kinds.length b1, .slice a2 S.members.length b2, .slice a3 S.preds.length b3, .slice a4 S.classes.length b4, .slice a5 S.sources.length b5, .slice a6 S.rules.length b6, .slice a7 S.excepts.length b7, .slice a8 S.totals.length b8⟩ := SR.go (HA.out.trans (((below_drew W0).trans hJ.low).mono HA.out.size)) HS.out
      refine does_call (f := 7) (args := #[.agg #[.string ⟨S.title.toArray⟩, .slice a1 S.kinds.length b1, .slice a2 S.members.length b2, .slice a3 S.preds.length b3, .slice a4 S.classes.length b4, .slice a5 S.sources.length b5, .slice a6 S.rules.length b6, .slice a7 S.excepts.length b7, .slice a8 S.totals.length b8]]) (w' := W) ?_ (copySt_q (Q := fun e w' => ∃ st', e = .returned (St9.agg st') ∧ SZ (Nw W w') w' S st' ∧ Below W.heap.size W w') hsr rfl HZ.out (fun st' w' h1 h2 => ⟨st', rfl, h1, h2⟩)) ?_
      · clear hc hf hL hd hJ hsr
        go_simp
      · rintro e W' ⟨st', rfl, hz', hb'⟩
        exact ⟨_, rfl, (hJ.same hb' (by omega) ⟨by simp, by simp, by simp, by simp⟩ (.inr (by simp)) (.inr (by simp)) (.inl rfl) (.inr (by simp)) (fun e => by (cases e)) (fun e => by (cases e)) (fun _ => ⟨rfl, h6, st', rfl, hz'⟩) (fun e => by (cases e)))⟩
    · intro ρ W L hc hf hL hd _ hJ
      have k3 : ρ (.tmp 3) = ptr (w.heap.size + 1) := hJ.s3
      have q : W.heap[w.heap.size + 1]? = some (.cells #[.bool l.neg, .string ⟨l.pred.toArray⟩, .slice aa l.args.length ac, .bool l.hasValue, .int .i64 l.value] 59 (0, 0)) := (hJ.low.block _ (loc_lt HB1.out)).trans HB1.out
      have y0 := cell_of_row W _ 0 _ _ _ q
      have y1 := cell_of_row W _ 1 _ _ _ q
      have y2 := cell_of_row W _ 2 _ _ _ q
      have y3 := cell_of_row W _ 3 _ _ _ q
      have y4 := cell_of_row W _ 4 _ _ _ q
      simp only [List.getElem?_toArray, List.getElem?_cons_zero, List.getElem?_cons_succ] at y0 y1 y2 y3 y4
      refine does_value (v := .agg #[.bool l.neg, .string ⟨l.pred.toArray⟩, .slice aa l.args.length ac, .bool l.hasValue, .int .i64 l.value]) (w' := W) ?_ (hJ.same (Below.refl _ _) (by omega) ⟨by simp, by simp, by simp, by simp⟩ (.inr (by simp)) (.inl rfl) (.inr (by simp)) (.inr (by simp)) (fun e => by (cases e)) (fun _ => ⟨rfl, rfl⟩) (fun e => by (cases e)) (fun e => by (cases e)))
      clear hc hf hL hd hJ q
      go_simp
    · intro ρ W L hc hf hL hd _ hJ
      have h2 : L 2 = true := hd ⟨2, .data⟩ (by simp) rfl
      have k13 : ρ (.tmp 13) = .agg #[.bool l.neg, .string ⟨l.pred.toArray⟩, .slice aa l.args.length ac, .bool l.hasValue, .int .i64 l.value] := hJ.s13 h2
      have h7 : L 7 = false := by
        cases e : L 7 with
        | false => rfl
        | true => rw [(hJ.o7 e).1] at hL; cases hL
      have kf := hf 35
      have hlt : cLit W.heap.size W l [.bool l.neg, .string ⟨l.pred.toArray⟩, .slice aa l.args.length ac, .bool l.hasValue, .int .i64 l.value] := cLit.go (HA.out.trans (((below_drew W0).trans hJ.low).mono HA.out.size)) ⟨_, rfl, HPR.out, HLL.out⟩
      refine does_call (f := 35) (args := #[.agg #[.bool l.neg, .string ⟨l.pred.toArray⟩, .slice aa l.args.length ac, .bool l.hasValue, .int .i64 l.value]]) (w' := W) ?_ (copyLi_z hlt HZL.out) ?_
      · clear hc hf hL hd hJ hlt
        go_simp
      · rintro e W' ⟨ys, rfl, hz', hb'⟩
        exact ⟨_, rfl, (hJ.same hb' (by omega) ⟨by simp, by simp, by simp, by simp⟩ (.inr (by simp)) (.inr (by simp)) (.inr (by simp)) (.inl rfl) (fun e => by (cases e)) (fun e => by (cases e)) (fun e => by (cases e)) (fun _ => ⟨rfl, h7, ys, rfl, hz'⟩))⟩
    · intro ρ W L hc hf hL hd _ hJ
      have h6 : L 6 = false := by
        cases e : L 6 with
        | false => rfl
        | true => rw [(hJ.o6 e).2] at hL; cases hL
      refine does_value (v := ptr W.heap.size) (w' := W.alloc (.cells #[.string ⟨#[]⟩, .slice none 0 0, .slice none 0 0, .slice none 0 0, .slice none 0 0, .slice none 0 0, .slice none 0 0, .slice none 0 0, .slice none 0 0] 31)) ?_ (hJ.box5 rfl h6)
      clear hc hf hL hd hJ
      go_simp
    · intro ρ W L hc hf hL hd _ hJ
      have h7 : L 7 = false := by
        cases e : L 7 with
        | false => rfl
        | true => rw [(hJ.o7 e).2] at hL; cases hL
      refine does_value (v := ptr W.heap.size) (w' := W.alloc (.cells #[.bool false, .string ⟨#[]⟩, .slice none 0 0, .bool false, .int .i64 0] 59)) ?_ (hJ.box6 rfl h7)
      clear hc hf hL hd hJ
      go_simp
    · intro ρ W L hc hf hL hd _ hJ
      have h1 : L 1 = true := hd ⟨1, .data⟩ (by simp) rfl
      have h4 : L 4 = true := hd ⟨4, .data⟩ (by simp) rfl
      obtain ⟨st', e12, hz'⟩ := hJ.s12 h1
      obtain ⟨b, cs, e5, hlb, hbx, hcs, -⟩ := hJ.s5 h4
      have k12 : ρ (.tmp 12) = .agg st'.cs.toArray := e12
      have k5 : ρ (.tmp 5) = ptr b := e5
      have HJ := hide (hJ.fill5 (v := undef) (vs := st'.cs) h1 h4 e5 hlb hbx hcs rfl e12)
      obtain ⟨t0, t1, t2, t3, t4, t5, t6, t7, t8, rfl⟩ : ∃ t0 t1 t2 t3 t4 t5 t6 t7 t8, cs = #[t0, t1, t2, t3, t4, t5, t6, t7, t8] := arr9 hcs
      have y0 := cell_of_row W _ 0 _ _ _ hbx
      have y1 := cell_of_row W _ 1 _ _ _ hbx
      have y2 := cell_of_row W _ 2 _ _ _ hbx
      have y3 := cell_of_row W _ 3 _ _ _ hbx
      have y4 := cell_of_row W _ 4 _ _ _ hbx
      have y5 := cell_of_row W _ 5 _ _ _ hbx
      have y6 := cell_of_row W _ 6 _ _ _ hbx
      have y7 := cell_of_row W _ 7 _ _ _ hbx
      have y8 := cell_of_row W _ 8 _ _ _ hbx
      simp only [List.getElem?_toArray, List.getElem?_cons_zero, List.getElem?_cons_succ] at y0 y1 y2 y3 y4 y5 y6 y7 y8
      have g0 := frozen_of_row W _ 0 _ _ hbx
      have g1 := frozen_of_row W _ 1 _ _ hbx
      have g2 := frozen_of_row W _ 2 _ _ hbx
      have g3 := frozen_of_row W _ 3 _ _ hbx
      have g4 := frozen_of_row W _ 4 _ _ hbx
      have g5 := frozen_of_row W _ 5 _ _ hbx
      have g6 := frozen_of_row W _ 6 _ _ hbx
      have g7 := frozen_of_row W _ 7 _ _ hbx
      have g8 := frozen_of_row W _ 8 _ _ hbx
      refine does_skip (w' := setAll W b 0 st'.cs) ?_ HJ.out
      clear hc hf hL hd hJ hbx e12 e5 HJ
      obtain ⟨m1, n1, i1⟩ := RZ.form hz'.kinds
      obtain ⟨m2, n2, i2⟩ := RZ.form hz'.members
      obtain ⟨m3, n3, i3⟩ := RZ.form hz'.preds
      obtain ⟨m4, n4, i4⟩ := RZ.form hz'.classes
      obtain ⟨m5, n5, i5⟩ := RZ.form hz'.sources
      obtain ⟨m6, n6, i6⟩ := RZ.form hz'.rules
      obtain ⟨m7, n7, i7⟩ := RZ.form hz'.excepts
      obtain ⟨m8, n8, i8⟩ := RZ.form hz'.totals
      have i0 := hz'.title
      clear hz'
      obtain ⟨u0, u1, u2, u3, u4, u5, u6, u7, u8⟩ := st'
      simp only at i0 i1 i2 i3 i4 i5 i6 i7 i8
      subst i0 i1 i2 i3 i4 i5 i6 i7 i8
      unfold str at *
      simp only [setAll]
      go_simp
    · intro ρ W L hc hf hL hd _ hJ
      have h3 : L 3 = true := hd ⟨3, .data⟩ (by simp) rfl
      have h5 : L 5 = true := hd ⟨5, .data⟩ (by simp) rfl
      obtain ⟨ys, e14, hz'⟩ := hJ.s14 h3
      obtain ⟨b, cs, e6, hlb, hbx, hcs, -⟩ := hJ.s6 h5
      have hyl : ys.length = 5 := by obtain ⟨av, rfl, _⟩ := hz'; rfl
      have k14 : ρ (.tmp 14) = .agg ys.toArray := e14
      have k6 : ρ (.tmp 6) = ptr b := e6
      have HJ := hide (hJ.fill6 (v := undef) (vs := ys) h3 h5 e6 hlb hbx hcs hyl e14)
      obtain ⟨t0, t1, t2, t3, t4, rfl⟩ : ∃ t0 t1 t2 t3 t4, cs = #[t0, t1, t2, t3, t4] := arr5 hcs
      have y0 := cell_of_row W _ 0 _ _ _ hbx
      have y1 := cell_of_row W _ 1 _ _ _ hbx
      have y2 := cell_of_row W _ 2 _ _ _ hbx
      have y3 := cell_of_row W _ 3 _ _ _ hbx
      have y4 := cell_of_row W _ 4 _ _ _ hbx
      simp only [List.getElem?_toArray, List.getElem?_cons_zero, List.getElem?_cons_succ] at y0 y1 y2 y3 y4
      have g0 := frozen_of_row W _ 0 _ _ hbx
      have g1 := frozen_of_row W _ 1 _ _ hbx
      have g2 := frozen_of_row W _ 2 _ _ hbx
      have g3 := frozen_of_row W _ 3 _ _ hbx
      have g4 := frozen_of_row W _ 4 _ _ hbx
      refine does_skip (w' := setAll W b 0 ys) ?_ HJ.out
      obtain ⟨av, rfl, _, hav⟩ := hz'
      obtain ⟨m1, n1, rfl⟩ := RZ.form hav
      clear hc hf hL hd hJ hbx e14 e6 HJ hav
      unfold str at *
      simp only [setAll]
      go_simp
    · intro c a' w' _ hE
      exact hE.elim
    · rintro ⟨tm, df⟩ w' hsz hdf ⟨L, hL, hJ⟩ hold
      simp only at hdf hsz
      subst hdf
      obtain ⟨x0, x1, x2, x3, x4, x5, x6, x7, x8, x9, x10, x11, x12, x13, x14, x15, x16, x17, x18, x19, x20, x21, x22, x23, x24, x25, x26, x27, x28, x29, x30, x31, x32, x33, x34, x35, x36, x37, x38, x39, x40, x41, x42, x43, x44, x45, x46, x47, x48, rfl⟩ := arr49 hsz
      have e0 := hold 0 (base_of (B := [0]) (by kernel_rfl) 0 (by simp))
      have e1 := hold 1 (base_of (B := [1]) (by kernel_rfl) 1 (by simp))
      have e2 := hold 2 (base_of (B := [2]) (by kernel_rfl) 2 (by simp))
      have e3 := hold 3 (base_of (B := [3]) (by kernel_rfl) 3 (by simp))
      have e4 := hold 4 (base_of (B := [4]) (by kernel_rfl) 4 (by simp))
      have e7 := hold 7 (base_of (B := [7]) (by kernel_rfl) 7 (by simp))
      have e8 := hold 8 (base_of (B := [8]) (by kernel_rfl) 8 (by simp))
      have e9 := hold 9 (base_of (B := [9]) (by kernel_rfl) 9 (by simp))
      have e10 := hold 10 (base_of (B := [10]) (by kernel_rfl) 10 (by simp))
      have e15 := hold 15 (base_of (B := [15]) (by kernel_rfl) 15 (by simp))
      have e16 := hold 16 (base_of (B := [16]) (by kernel_rfl) 16 (by simp))
      have e17 := hold 17 (base_of (B := [17]) (by kernel_rfl) 17 (by simp))
      have e18 := hold 18 (base_of (B := [18]) (by kernel_rfl) 18 (by simp))
      have e19 := hold 19 (base_of (B := [19]) (by kernel_rfl) 19 (by simp))
      have e20 := hold 20 (base_of (B := [20]) (by kernel_rfl) 20 (by simp))
      have e21 := hold 21 (base_of (B := [21]) (by kernel_rfl) 21 (by simp))
      have e22 := hold 22 (base_of (B := [22]) (by kernel_rfl) 22 (by simp))
      have e23 := hold 23 (base_of (B := [23]) (by kernel_rfl) 23 (by simp))
      have e24 := hold 24 (base_of (B := [24]) (by kernel_rfl) 24 (by simp))
      have e25 := hold 25 (base_of (B := [25]) (by kernel_rfl) 25 (by simp))
      have e26 := hold 26 (base_of (B := [26]) (by kernel_rfl) 26 (by simp))
      have e27 := hold 27 (base_of (B := [27]) (by kernel_rfl) 27 (by simp))
      have e28 := hold 28 (base_of (B := [28]) (by kernel_rfl) 28 (by simp))
      have e29 := hold 29 (base_of (B := [29]) (by kernel_rfl) 29 (by simp))
      have e30 := hold 30 (base_of (B := [30]) (by kernel_rfl) 30 (by simp))
      have e31 := hold 31 (base_of (B := [31]) (by kernel_rfl) 31 (by simp))
      have e32 := hold 32 (base_of (B := [32]) (by kernel_rfl) 32 (by simp))
      have e33 := hold 33 (base_of (B := [33]) (by kernel_rfl) 33 (by simp))
      have e34 := hold 34 (base_of (B := [34]) (by kernel_rfl) 34 (by simp))
      have e35 := hold 35 (base_of (B := [35]) (by kernel_rfl) 35 (by simp))
      have e36 := hold 36 (base_of (B := [36]) (by kernel_rfl) 36 (by simp))
      have e37 := hold 37 (base_of (B := [37]) (by kernel_rfl) 37 (by simp))
      have e38 := hold 38 (base_of (B := [38]) (by kernel_rfl) 38 (by simp))
      have e39 := hold 39 (base_of (B := [39]) (by kernel_rfl) 39 (by simp))
      have e40 := hold 40 (base_of (B := [40]) (by kernel_rfl) 40 (by simp))
      have e41 := hold 41 (base_of (B := [41]) (by kernel_rfl) 41 (by simp))
      have e42 := hold 42 (base_of (B := [42]) (by kernel_rfl) 42 (by simp))
      have e43 := hold 43 (base_of (B := [43]) (by kernel_rfl) 43 (by simp))
      have e44 := hold 44 (base_of (B := [44]) (by kernel_rfl) 44 (by simp))
      have e45 := hold 45 (base_of (B := [45]) (by kernel_rfl) 45 (by simp))
      have e46 := hold 46 (base_of (B := [46]) (by kernel_rfl) 46 (by simp))
      have e47 := hold 47 (base_of (B := [47]) (by kernel_rfl) 47 (by simp))
      have e48 := hold 48 (base_of (B := [48]) (by kernel_rfl) 48 (by simp))
      simp only [Array.getD_eq_getD_getElem?, List.getElem?_toArray, List.getElem?_cons_zero, List.getElem?_cons_succ, Option.getD_some] at e0 e1 e2 e3 e4 e7 e8 e9 e10 e15 e16 e17 e18 e19 e20 e21 e22 e23 e24 e25 e26 e27 e28 e29 e30 e31 e32 e33 e34 e35 e36 e37 e38 e39 e40 e41 e42 e43 e44 e45 e46 e47 e48
      subst e0 e1 e2 e3 e4 e7 e8 e9 e10 e15 e16 e17 e18 e19 e20 e21 e22 e23 e24 e25 e26 e27 e28 e29 e30 e31 e32 e33 e34 e35 e36 e37 e38 e39 e40 e41 e42 e43 e44 e45 e46 e47 e48
      have HR : ∃ (b c : Nat) (st' : St9) (ys : List Value), x5 = ptr b ∧ x6 = ptr c ∧ Hid (Rs S st' l ys [.string ⟨S.title.toArray⟩, .slice a1 S.kinds.length b1, .slice a2 S.members.length b2, .slice a3 S.preds.length b3, .slice a4 S.classes.length b4, .slice a5 S.sources.length b5, .slice a6 S.rules.length b6, .slice a7 S.excepts.length b7, .slice a8 S.totals.length b8] [.bool l.neg, .string ⟨l.pred.toArray⟩, .slice aa l.args.length ac, .bool l.hasValue, .int .i64 l.value] w b c w') := by
        have hlow := HA.out.trans (((below_drew W0).trans hJ.low).mono HA.out.size)
        have hnb : W0.heap.size ≤ w'.heap.size := hJ.low.size
        obtain ⟨st', e12, hz'⟩ := hJ.s12 (hL 1 (by decide))
        obtain ⟨ys, e14, hy'⟩ := hJ.s14 (hL 3 (by decide))
        obtain ⟨b, cs, e5, -, hbx, -, h6⟩ := hJ.s5 (hL 4 (by decide))
        obtain ⟨c, ds, e6, -, hcx, -, h7⟩ := hJ.s6 (hL 5 (by decide))
        have hcs := (h6 (hL 6 (by decide))).symm.trans e12
        have hds := (h7 (hL 7 (by decide))).symm.trans e14
        cases hcs
        cases hds
        exact ⟨b, c, st', ys, e5, e6, hide ⟨hlow, (hJ.low.block _ (loc_lt HB0.out)).trans HB0.out, (hJ.low.block _ (loc_lt HB1.out)).trans HB1.out, hbx, hcx, hz'.title, hz'.sr fun g hg => hg.2.1, cLitZ.rr (fun g hg => hg.2.1) hy'⟩⟩
      clear hJ hL hold hsz
      go_wp2_with fail
      go_meet
      case rel => exact HR
  case rest =>
    obtain ⟨b, c, st', ys, rfl, rfl, HR⟩ := hcut
    obtain ⟨m1, n1, i1, _⟩ := HR.out.sr.kinds.form
    obtain ⟨m2, n2, i2, _⟩ := HR.out.sr.members.form
    obtain ⟨m3, n3, i3, _⟩ := HR.out.sr.preds.form
    obtain ⟨m4, n4, i4, _⟩ := HR.out.sr.classes.form
    obtain ⟨m5, n5, i5, _⟩ := HR.out.sr.sources.form
    obtain ⟨m6, n6, i6, _⟩ := HR.out.sr.rules.form
    obtain ⟨m7, n7, i7, _⟩ := HR.out.sr.excepts.form
    obtain ⟨m8, n8, i8, _⟩ := HR.out.sr.totals.form
    have i0 := HR.out.title
    obtain ⟨u0, u1, u2, u3, u4, u5, u6, u7, u8⟩ := st'
    simp only at i0 i1 i2 i3 i4 i5 i6 i7 i8
    subst i0 i1 i2 i3 i4 i5 i6 i7 i8
    obtain ⟨av, hav, _, har⟩ := HR.out.lt
    obtain ⟨ka, kc, rfl, _⟩ := har.form
    subst hav
    have HAR := hide har
    clear har HB0 HB1 HA
    unfold str at *
    have y0 := cell_of_row wc _ 0 _ _ _ HR.out.b2
    have y1 := cell_of_row wc _ 1 _ _ _ HR.out.b2
    have y2 := cell_of_row wc _ 2 _ _ _ HR.out.b2
    have y3 := cell_of_row wc _ 3 _ _ _ HR.out.b2
    have y4 := cell_of_row wc _ 4 _ _ _ HR.out.b2
    have y5 := cell_of_row wc _ 5 _ _ _ HR.out.b2
    have y6 := cell_of_row wc _ 6 _ _ _ HR.out.b2
    have y7 := cell_of_row wc _ 7 _ _ _ HR.out.b2
    have y8 := cell_of_row wc _ 8 _ _ _ HR.out.b2
    have d0 := cell_of_row wc _ 0 _ _ _ HR.out.b3
    have d1 := cell_of_row wc _ 1 _ _ _ HR.out.b3
    have d2 := cell_of_row wc _ 2 _ _ _ HR.out.b3
    have d3 := cell_of_row wc _ 3 _ _ _ HR.out.b3
    have d4 := cell_of_row wc _ 4 _ _ _ HR.out.b3
    simp only [List.getElem?_toArray, List.getElem?_cons_zero, List.getElem?_cons_succ] at y0 y1 y2 y3 y4 y5 y6 y7 y8 d0 d1 d2 d3 d4
    have CL := hide (literal_any HR.out.sr l HPR.out HAR.out)
    unfold St9.agg litV at CL
    simp only at CL
    have CR := hide (fun (W : World) (hb : Below wc.heap.size wc W) => rliteral_any (SR.go (HR.out.low.trans (hb.mono HR.out.low.size)) HS.out) l (Strs.go (HR.out.low.trans (hb.mono HR.out.low.size)) HLL.out))
    unfold St9.agg at CR
    simp only at CR
    have HET := hide (fun (W W' : World) (e : Ending) (h : Et S l W (checkM S).1 (literalGM S.ctx l) e W') => Et.out h)
    have HML := hide (out_len S l)
    generalize outM S l = oo at *
    obtain ⟨ng, pr, ms, va, cc⟩ := oo
    simp only at HET HML
    go_upto_region 3 with (go_at_call 36; refine CL.out.mono ?_; rintro e W1 het; obtain ⟨a7, c7, rfl, hb1, hrow1⟩ := HET.out _ _ _ het)
    have hA : Below W1.heap.size W1 (W1.alloc (.cells #[.bool ng, .int .i64 pr, .slice a7 ms.length c7, .int .i64 va, .int .i64 0] 64)) := (Below.refl _ W1).alloc (Nat.le_refl _) _
    have HW2 := hide (hb1.trans (hA.mono hb1.size))
    have HR2 := hide (HR.out.call (hb1.trans (hA.mono hb1.size)))
    have HB7 := hide (heap_alloc_new W1 (.cells #[.bool ng, .int .i64 pr, .slice a7 ms.length c7, .int .i64 va, .int .i64 0] 64))
    have HR7 := hide (owns_keep hrow1 fun g hg => hA.block g (owns_lt hrow1 hg))
    clear het hA hb1 hrow1 CL y0 y1 y2 y3 y4 y5 y6 y7 y8 d0 d1 d2 d3 d4
    generalize W1.alloc (.cells #[.bool ng, .int .i64 pr, .slice a7 ms.length c7, .int .i64 va, .int .i64 0] 64) = W2 at *
    generalize W1.heap.size = q7 at *
    have y0 := cell_of_row W2 _ 0 _ _ _ HR2.out.b0
    have y1 := cell_of_row W2 _ 1 _ _ _ HR2.out.b0
    have y2 := cell_of_row W2 _ 2 _ _ _ HR2.out.b0
    have y3 := cell_of_row W2 _ 3 _ _ _ HR2.out.b0
    have y4 := cell_of_row W2 _ 4 _ _ _ HR2.out.b0
    have y5 := cell_of_row W2 _ 5 _ _ _ HR2.out.b0
    have y6 := cell_of_row W2 _ 6 _ _ _ HR2.out.b0
    have y7 := cell_of_row W2 _ 7 _ _ _ HR2.out.b0
    have y8 := cell_of_row W2 _ 8 _ _ _ HR2.out.b0
    have d0 := cell_of_row W2 _ 0 _ _ _ HR2.out.b1
    have d1 := cell_of_row W2 _ 1 _ _ _ HR2.out.b1
    have d2 := cell_of_row W2 _ 2 _ _ _ HR2.out.b1
    have d3 := cell_of_row W2 _ 3 _ _ _ HR2.out.b1
    have d4 := cell_of_row W2 _ 4 _ _ _ HR2.out.b1
    simp only [List.getElem?_toArray, List.getElem?_cons_zero, List.getElem?_cons_succ] at y0 y1 y2 y3 y4 y5 y6 y7 y8 d0 d1 d2 d3 d4
    have CR2 := hide (CR.out W2 HW2.out)
    go_upto_region 4 with (go_at_call 37; refine CR2.out.mono ?_; rintro e W3 het; obtain ⟨a9, c9, rfl, hb3, hrow3⟩ := HET.out _ _ _ het)
    have hA : Below W3.heap.size W3 (W3.alloc (.cells #[.bool ng, .int .i64 pr, .slice a9 ms.length c9, .int .i64 va, .int .i64 0] 64)) := (Below.refl _ W3).alloc (Nat.le_refl _) _
    have hb4 := hb3.trans (hA.mono hb3.size)
    have HR4 := hide (HR2.out.call hb4)
    have HB7' := hide ((hb4.block _ (loc_lt HB7.out)).trans HB7.out)
    have HR7' := hide (owns_keep HR7.out fun g hg => hb4.block g (owns_lt HR7.out hg))
    have HB9 := hide (heap_alloc_new W3 (.cells #[.bool ng, .int .i64 pr, .slice a9 ms.length c9, .int .i64 va, .int .i64 0] 64))
    have HR9 := hide (owns_keep hrow3 fun g hg => hA.block g (owns_lt hrow3 hg))
    clear het hA hb3 hb4 hrow3 CR CR2 HR2 HB7 HR7 HW2 HR HET y0 y1 y2 y3 y4 y5 y6 y7 y8 d0 d1 d2 d3 d4
    generalize W3.alloc (.cells #[.bool ng, .int .i64 pr, .slice a9 ms.length c9, .int .i64 va, .int .i64 0] 64) = W4 at *
    generalize W3.heap.size = q9 at *
    have hml : (ms.map fun (n : Nat) => (n : Int)).length = ms.length := List.length_map _
    have hni : nats ms = ints (ms.map fun (n : Nat) => (n : Int)) := by simp [nats, ints]
    have hlim : ms.length ≤ 140737488351232 := Nat.le_trans HML.out HLL.out.lim
    have CS := hide (sameLit_yes (pr := pr) (va := va) (dp := 0) (ng := ng) (owns_down' (by rw [← hni]; exact HR7'.out) (Nat.zero_le _)) (owns_down' (by rw [← hni]; exact HR9.out) (Nat.zero_le _)) hml hlim)
    clear hml hni hlim HML
    have x0 := cell_of_row W4 _ 0 _ _ _ HB7'.out
    have x1 := cell_of_row W4 _ 1 _ _ _ HB7'.out
    have x2 := cell_of_row W4 _ 2 _ _ _ HB7'.out
    have x3 := cell_of_row W4 _ 3 _ _ _ HB7'.out
    have x4 := cell_of_row W4 _ 4 _ _ _ HB7'.out
    have z0 := cell_of_row W4 _ 0 _ _ _ HB9.out
    have z1 := cell_of_row W4 _ 1 _ _ _ HB9.out
    have z2 := cell_of_row W4 _ 2 _ _ _ HB9.out
    have z3 := cell_of_row W4 _ 3 _ _ _ HB9.out
    have z4 := cell_of_row W4 _ 4 _ _ _ HB9.out
    simp only [List.getElem?_toArray, List.getElem?_cons_zero, List.getElem?_cons_succ] at x0 x1 x2 x3 x4 z0 z1 z2 z3 z4
    go_wp2_with fail
    refine CS.out.mono ?_
    rintro _ W5 ⟨rfl, hb5⟩
    have HR5 := hide (HR4.out.call hb5)
    clear CS hb5 HR4 HB7' HR7' HB9 HR9 x0 x1 x2 x3 x4 z0 z1 z2 z3 z4
    have CN := hide (num_any cc W5)
    go_wp2_with fail
    refine CN.out.mono ?_
    rintro _ W5' ⟨rfl, hw⟩
    subst W5'
    have y0 := cell_of_row W5 _ 0 _ _ _ HR5.out.b2
    have y1 := cell_of_row W5 _ 1 _ _ _ HR5.out.b2
    have y2 := cell_of_row W5 _ 2 _ _ _ HR5.out.b2
    have y3 := cell_of_row W5 _ 3 _ _ _ HR5.out.b2
    have y4 := cell_of_row W5 _ 4 _ _ _ HR5.out.b2
    have y5 := cell_of_row W5 _ 5 _ _ _ HR5.out.b2
    have y6 := cell_of_row W5 _ 6 _ _ _ HR5.out.b2
    have y7 := cell_of_row W5 _ 7 _ _ _ HR5.out.b2
    have y8 := cell_of_row W5 _ 8 _ _ _ HR5.out.b2
    have d0 := cell_of_row W5 _ 0 _ _ _ HR5.out.b0
    have d1 := cell_of_row W5 _ 1 _ _ _ HR5.out.b0
    have d2 := cell_of_row W5 _ 2 _ _ _ HR5.out.b0
    have d3 := cell_of_row W5 _ 3 _ _ _ HR5.out.b0
    have d4 := cell_of_row W5 _ 4 _ _ _ HR5.out.b0
    have d5 := cell_of_row W5 _ 5 _ _ _ HR5.out.b0
    have d6 := cell_of_row W5 _ 6 _ _ _ HR5.out.b0
    have d7 := cell_of_row W5 _ 7 _ _ _ HR5.out.b0
    have d8 := cell_of_row W5 _ 8 _ _ _ HR5.out.b0
    simp only [List.getElem?_toArray, List.getElem?_cons_zero, List.getElem?_cons_succ] at y0 y1 y2 y3 y4 y5 y6 y7 y8 d0 d1 d2 d3 d4 d5 d6 d7 d8
    have CT := hide (sameSt_yes HR5.out.sr (SR.go HR5.out.low HS.out) rfl rfl)
    unfold St9.agg at CT
    simp only at CT
    go_wp2_with fail
    refine CT.out.mono ?_
    rintro _ W6 ⟨rfl, hb6⟩
    have HR6 := hide (HR5.out.call hb6)
    clear CT CN hb6 HR5 y0 y1 y2 y3 y4 y5 y6 y7 y8 d0 d1 d2 d3 d4 d5 d6 d7 d8
    have y0 := cell_of_row W6 _ 0 _ _ _ HR6.out.b3
    have y1 := cell_of_row W6 _ 1 _ _ _ HR6.out.b3
    have y2 := cell_of_row W6 _ 2 _ _ _ HR6.out.b3
    have y3 := cell_of_row W6 _ 3 _ _ _ HR6.out.b3
    have y4 := cell_of_row W6 _ 4 _ _ _ HR6.out.b3
    have d0 := cell_of_row W6 _ 0 _ _ _ HR6.out.b1
    have d1 := cell_of_row W6 _ 1 _ _ _ HR6.out.b1
    have d2 := cell_of_row W6 _ 2 _ _ _ HR6.out.b1
    have d3 := cell_of_row W6 _ 3 _ _ _ HR6.out.b1
    have d4 := cell_of_row W6 _ 4 _ _ _ HR6.out.b1
    simp only [List.getElem?_toArray, List.getElem?_cons_zero, List.getElem?_cons_succ] at y0 y1 y2 y3 y4 d0 d1 d2 d3 d4
    have CU := hide (sameLi_z HR6.out.lt (cLit.go HR6.out.low (show cLit w.heap.size w l [.bool l.neg, .string ⟨l.pred.toArray⟩, .slice aa l.args.length ac, .bool l.hasValue, .int .i64 l.value] from ⟨_, rfl, HPR.out, HLL.out⟩)))
    go_wp2_with fail
    refine CU.out.mono ?_
    rintro _ W7 ⟨rfl, hb7⟩
    have HR7 := hide (HR6.out.call hb7)
    clear CU hb7 HR6 y0 y1 y2 y3 y4 d0 d1 d2 d3 d4
    have CV := hide (works_any W7)
    go_wp2_with fail
    refine CV.out.mono ?_
    rintro _ W8 ⟨rfl, hb8⟩
    have HR8 := hide (HR7.out.call hb8)
    clear CV hb8 HR7
    go_wp2_with fail
    go_ret
    exact ⟨rfl, HR8.out.low⟩
end Go.Proofs.YtfnobccminhjpaaGreat
