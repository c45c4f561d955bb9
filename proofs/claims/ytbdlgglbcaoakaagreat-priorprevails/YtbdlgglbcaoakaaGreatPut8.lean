/- A key keeps the number with which it came first. -/
import Derived.Test.YtbdlgglbcaoakaaGreatSmall8
import Derived.DeepKeys4
namespace Go.Proofs.YtbdlgglbcaoakaaGreat
open Go.RowKit Go.Shelf Go.Maps Go.WideMaps

/-- What a call leaves as it was that writes blocks of Z's and new ones alone. -/
structure Fr (Z : Nat → Prop) (w w' : World) : Prop where
  os : w'.os = w.os
  tape : w'.tape = w.tape
  output : w'.output = w.output
  size : w.heap.size ≤ w'.heap.size
  block : ∀ k, k < w.heap.size → ¬ Z k → w'.heap[k]? = w.heap[k]?
theorem Fr.refl (Z : Nat → Prop) (w : World) : Fr Z w w := ⟨rfl, rfl, rfl, Nat.le_refl _, fun _ _ _ => rfl⟩
theorem Fr.trans {Z : Nat → Prop} {a b c : World} (h : Fr Z a b) (k : Fr Z b c) : Fr Z a c :=
  ⟨k.os.trans h.os, k.tape.trans h.tape, k.output.trans h.output, Nat.le_trans h.size k.size, fun i hi hz => (k.block i (Nat.lt_of_lt_of_le hi h.size) hz).trans (h.block i hi hz)⟩
theorem Fr.of_below {Z : Nat → Prop} {w w' : World} (h : Below w.heap.size w w') : Fr Z w w' := ⟨h.os, h.tape, h.output, h.size, fun k hk _ => h.block k hk⟩
theorem Fr.of_grown {Z : Nat → Prop} {w w' : World} {row : Option Nat} (h : w.grownBy w' row) (hz : ∀ k, row = some k → Z k) : Fr Z w w' :=
  ⟨h.os, h.tape, h.output, h.size, fun k hk hn => h.block k hk fun e => hn (hz k e.symm)⟩
theorem Fr.setCell {Z : Nat → Prop} {w : World} (p : Addr) (v : Value) (hz : Z p.block) : Fr Z w (w.setCell p v) :=
  ⟨rfl, rfl, rfl, by simp, fun k _ hn => heap_setCell_other w p k v fun e => hn (e ▸ hz)⟩
theorem Fr.below {Z : Nat → Prop} {w w' : World} (h : Fr Z w w') {n : Nat} (hn : ∀ k, k < n → k < w.heap.size ∧ ¬ Z k) : Below n w w' := ⟨h.os, h.tape, h.output, h.size, fun k hk => h.block k (hn k hk).1 (hn k hk).2⟩
theorem Fr.mono {Z Z' : Nat → Prop} {w w' : World} (h : Fr Z w w') (hz : ∀ k, k < w.heap.size → Z k → Z' k) : Fr Z' w w' := ⟨h.os, h.tape, h.output, h.size, fun k hk hn => h.block k hk fun e => hn (hz k hk e)⟩

theorem wf64 {n : Nat} (h : n ≤ 140737488351232) : (Lit.int .i64 n).wf = true := WalkArith.wf_i64 (by omega)
theorem laidOut8 : laidOutB Tryz.prog = true := by kernel_rfl
theorem lawE : Keyed Tryz.prog 41 := Keyed.of_law (deep_law_laid laidOut8 (m := 3) (by omega) (of_decide_eq_true (by kernel_rfl)) (by kernel_rfl) (by kernel_rfl))
theorem keyTypeE : Tryz.prog.keyType 41 = true := by kernel_rfl
theorem cellsE : Tryz.prog.cellsOf 41 = 2 := by kernel_rfl

section
variable {w : World} {b : Nat} {l : List Bytes}
theorem has_put {D : DataW Unit} {s : Bytes} {v : DataW Unit} (h : ∀ t : Bytes, Maps.has D (.string t) = decide (t ∈ l)) (hD : Maps.IsMap D) : ∀ t : Bytes, Maps.has (D.put (.string s) v) (.string t) = decide (t ∈ l ++ [s]) := by
  intro t
  by_cases e : t = s
  · subst e; rw [Maps.has_put_same hD (key_str _)]; simp
  · have hne : Lit.string t ≠ Lit.string s := by intro h; injection h; contradiction
    rw [Maps.has_put_other hne, h t]; simp [e]

set_option maxRecDepth 100000 in
set_option maxHeartbeats 1600000 in
/-- What put does with a map, whatever it tells. -/
theorem put_map {n : Nat} {D : DataW Unit} (hm : w.ownsMap (H := Unit) Tryz.prog 9 (plainElem Tryz.prog 3) b n D) (hn : n ≤ 281474976710656) (s : Bytes) (hs : s.length ≤ maxLen) (k : Nat) (hk : k ≤ 140737488351232) :
    Calls Tryz.prog 92 #[.map (some b), str s, .int .i64 k] w fun e w' => e = .returned (.bool (!Maps.has D (.string s))) ∧
      ((Maps.has D (.string s) = true ∧ w' = w) ∨ (Maps.has D (.string s) = false ∧ w'.ownsMap (H := Unit) Tryz.prog 9 (plainElem Tryz.prog 3) b (n + 1) (D.put (.string s) (.lit (.int .i64 k))) ∧ w.grownBy w' (some b))) := by
  have HK := hide (key_mk hs)
  have HWF := hide (wf64 hk)
  unfold str
  cases hh : Maps.has D (.string s) with
  | true =>
    go_enter Tryz.func92, Tryz.ntmps92
    go_wp2_with (at_lookup; go_must (refine wpList_lookup_own_ok_int _ rfl _ _ 67 rfl 9 3 .i64 law Tryz.underlying67 Tryz.underlying3 (Tryz.zeroValue3 _) b n _ rfl hm _ _ rfl HK.out ?_); intro cc hat hwc; rw [hh])
    go_ret
    exact ⟨rfl, .inl ⟨trivial, rfl⟩⟩
  | false =>
    go_enter Tryz.func92, Tryz.ntmps92
    go_wp2_with (first | (at_lookup; go_must (refine wpList_lookup_own_ok_int _ rfl _ _ 67 rfl 9 3 .i64 law Tryz.underlying67 Tryz.underlying3 (Tryz.zeroValue3 _) b n _ rfl hm _ _ rfl HK.out ?_); intro cc hat hwc; rw [hh]) | (at_mapUpdate; go_must (refine wpList_mapUpdate_own _ rfl _ _ _ 67 rfl 9 3 law Tryz.underlying67 _ b n _ rfl hm (by unfold maxLen; omega) _ _ _ rfl rfl HK.out _ [] (plainElem_int Tryz.underlying3 HWF.out) ?_); intro w1 hm1 hg1))
    go_ret
    exact ⟨rfl, .inr ⟨trivial, hm1, hg1⟩⟩

theorem putS_any (hm : KMap 9 w b l) (hl : l.length ≤ 140737488351232) (s : Bytes) (hs : s.length ≤ maxLen) :
    Calls Tryz.prog 92 #[.map (some b), str s, .int .i64 l.length] w fun e w' => e = .returned (.bool (!decide (s ∈ l))) ∧ KMap 9 w' b (l ++ [s]) ∧ Fr (fun k => k = b) w w' := by
  obtain ⟨n, D, h1, h2, h3⟩ := hm
  refine (put_map h1 (by omega) s hs l.length hl).mono ?_
  rintro e w' ⟨rfl, h⟩
  rw [(h2 s).1] at h ⊢
  rcases h with ⟨hh, rfl⟩ | ⟨hh, ho, hg⟩
  · exact ⟨rfl, ⟨n, D, h1, num_same h2 (of_decide_eq_true hh), by simp; omega⟩, .refl _ _⟩
  · exact ⟨rfl, ⟨_, _, ho, num_put h2 (h1.tidy law).isMap (of_decide_eq_false hh), by simp; omega⟩, .of_grown hg fun k e => by cases e; rfl⟩
theorem putC_any (hm : CMap w b l) (hl : l.length ≤ 140737488351232) (s : Bytes) (hs : s.length ≤ maxLen) (k : Nat) (hk : k ≤ 140737488351232) :
    Calls Tryz.prog 92 #[.map (some b), str s, .int .i64 k] w fun e w' => e = .returned (.bool (!decide (s ∈ l))) ∧ CMap w' b (l ++ [s]) ∧ Fr (fun k => k = b) w w' := by
  obtain ⟨n, D, h1, h2, h3⟩ := hm
  refine (put_map h1 (by omega) s hs k hk).mono ?_
  rintro e w' ⟨rfl, h⟩
  rw [h2 s] at h ⊢
  rcases h with ⟨hh, rfl⟩ | ⟨hh, ho, hg⟩
  · refine ⟨rfl, ⟨n, D, h1, fun t => ?_, by simp; omega⟩, .refl _ _⟩
    rw [h2 t]
    have := of_decide_eq_true hh
    by_cases e : t = s <;> simp [e, this]
  · exact ⟨rfl, ⟨_, _, ho, has_put h2 (h1.tidy law).isMap, by simp; omega⟩, .of_grown hg fun k e => by cases e; rfl⟩
end
end Go.Proofs.YtbdlgglbcaoakaaGreat
/- The cells of a statute's things. -/
namespace Go.Proofs.YtbdlgglbcaoakaaGreat
open Go.RowKit Go.Shelf Go.Maps Go.WideMaps

section
variable {N : Nat} {w : World} {a : Option Addr} {n c i : Nat}
theorem RR.open {α : Type} {k : Nat} {cc : World → α → List Value → Prop} {l : List α} (h : RR N k cc w l (.slice a n c)) {x : α} (hx : l[i]? = some x) :
    ∃ g o xs, a = some ⟨g, o, none⟩ ∧ g < N ∧ xs.length = k ∧ (∀ j u, xs[j]? = some u → w.cell? ⟨g, o + i * k + j, none⟩ = some u) ∧ cc w x xs := by
  obtain ⟨a', c', e, _, _, h⟩ := h
  cases e
  exact h i x hx
theorem at_S {l : List Bytes} (h : Strs N w l (.slice a n c)) {x : Bytes} (hx : l[i]? = some x) : ∃ g o, a = some ⟨g, o, none⟩ ∧ g < N ∧ w.cell? ⟨g, o + i, none⟩ = some (str x) ∧ x.length ≤ maxLen := by
  obtain ⟨g, o, xs, ea, hg, _, hc, rfl, hs⟩ := RR.open h hx
  have c0 := hc 0 _ rfl
  rw [Nat.mul_one] at c0
  exact ⟨g, o, ea, hg, c0, hs⟩
theorem at_V {l : List Int} (h : Moneys N w l (.slice a n c)) {x : Int} (hx : l[i]? = some x) : ∃ g o, a = some ⟨g, o, none⟩ ∧ g < N ∧ w.cell? ⟨g, o + i, none⟩ = some (.int .i64 x) := by
  obtain ⟨g, o, xs, ea, hg, _, hc, rfl⟩ := RR.open h hx
  have c0 := hc 0 _ rfl
  rw [Nat.mul_one] at c0
  exact ⟨g, o, ea, hg, c0⟩
theorem at_M {l : List (Bytes × Bytes)} (h : RR N 2 cM w l (.slice a n c)) {x : Bytes × Bytes} (hx : l[i]? = some x) : ∃ g o, a = some ⟨g, o, none⟩ ∧ g < N ∧ w.cell? ⟨g, o + i * 2, none⟩ = some (str x.1) ∧ w.cell? ⟨g, o + i * 2 + 1, none⟩ = some (str x.2) ∧ x.1.length ≤ maxLen ∧ x.2.length ≤ maxLen := by
  obtain ⟨g, o, xs, ea, hg, _, hc, rfl, h1, h2⟩ := RR.open h hx
  exact ⟨g, o, ea, hg, hc 0 _ rfl, hc 1 _ rfl, h1, h2⟩
theorem at_Src {l : List (Bytes × Int)} (h : RR N 2 cSrc w l (.slice a n c)) {x : Bytes × Int} (hx : l[i]? = some x) : ∃ g o, a = some ⟨g, o, none⟩ ∧ g < N ∧ w.cell? ⟨g, o + i * 2, none⟩ = some (str x.1) ∧ w.cell? ⟨g, o + i * 2 + 1, none⟩ = some (.int .i64 x.2) ∧ x.1.length ≤ maxLen := by
  obtain ⟨g, o, xs, ea, hg, _, hc, rfl, h1⟩ := RR.open h hx
  exact ⟨g, o, ea, hg, hc 0 _ rfl, hc 1 _ rfl, h1⟩
theorem at_P {l : List PredM} (h : RR N 4 (cPred N) w l (.slice a n c)) {x : PredM} (hx : l[i]? = some x) : ∃ g o ka kc va vc, a = some ⟨g, o, none⟩ ∧ g < N ∧ w.cell? ⟨g, o + i * 4, none⟩ = some (str x.name) ∧ w.cell? ⟨g, o + i * 4 + 1, none⟩ = some (.int .i64 x.sort) ∧
    w.cell? ⟨g, o + i * 4 + 2, none⟩ = some (.slice ka x.kinds.length kc) ∧ w.cell? ⟨g, o + i * 4 + 3, none⟩ = some (.slice va x.values.length vc) ∧ x.name.length ≤ maxLen ∧ Strs N w x.kinds (.slice ka x.kinds.length kc) ∧ Moneys N w x.values (.slice va x.values.length vc) := by
  obtain ⟨g, o, xs, ea, hg, _, hc, kv, vv, rfl, h1, h2, h3⟩ := RR.open h hx
  obtain ⟨ka, kc, rfl, _⟩ := h2.form
  obtain ⟨va, vc, rfl, _⟩ := h3.form
  exact ⟨g, o, ka, kc, va, vc, ea, hg, hc 0 _ rfl, hc 1 _ rfl, hc 2 _ rfl, hc 3 _ rfl, h1, h2, h3⟩
theorem at_C {l : List (List Bytes)} (h : RR N 1 (cClass N) w l (.slice a n c)) {x : List Bytes} (hx : l[i]? = some x) : ∃ g o ka kc, a = some ⟨g, o, none⟩ ∧ g < N ∧ w.cell? ⟨g, o + i, none⟩ = some (.slice ka x.length kc) ∧ Strs N w x (.slice ka x.length kc) := by
  obtain ⟨g, o, xs, ea, hg, _, hc, kv, rfl, h1⟩ := RR.open h hx
  obtain ⟨ka, kc, rfl, _⟩ := h1.form
  have c0 := hc 0 _ rfl
  rw [Nat.mul_one] at c0
  exact ⟨g, o, ka, kc, ea, hg, c0, h1⟩
theorem at_T {l : List TotalM} (h : RR N 5 (cTotal N) w l (.slice a n c)) {x : TotalM} (hx : l[i]? = some x) : ∃ g o ka kc, a = some ⟨g, o, none⟩ ∧ g < N ∧ w.cell? ⟨g, o + i * 5, none⟩ = some (str x.name) ∧ w.cell? ⟨g, o + i * 5 + 1, none⟩ = some (str x.kind) ∧
    w.cell? ⟨g, o + i * 5 + 2, none⟩ = some (.slice ka x.preds.length kc) ∧ w.cell? ⟨g, o + i * 5 + 3, none⟩ = some (.bool x.hasCap) ∧ w.cell? ⟨g, o + i * 5 + 4, none⟩ = some (.int .i64 x.cap) ∧ x.name.length ≤ maxLen ∧ x.kind.length ≤ maxLen ∧ Strs N w x.preds (.slice ka x.preds.length kc) := by
  obtain ⟨g, o, xs, ea, hg, _, hc, pv, rfl, h1, h2, h3⟩ := RR.open h hx
  obtain ⟨ka, kc, rfl, _⟩ := h3.form
  exact ⟨g, o, ka, kc, ea, hg, hc 0 _ rfl, hc 1 _ rfl, hc 2 _ rfl, hc 3 _ rfl, hc 4 _ rfl, h1, h2, h3⟩
theorem at_R {l : List RuleM} (h : RR N 11 (cRule N) w l (.slice a n c)) {x : RuleM} (hx : l[i]? = some x) : ∃ g o ba bc ka kc, a = some ⟨g, o, none⟩ ∧ g < N ∧ w.cell? ⟨g, o + i * 11, none⟩ = some (str x.name) ∧ w.cell? ⟨g, o + i * 11 + 1, none⟩ = some (str x.source) ∧ w.cell? ⟨g, o + i * 11 + 2, none⟩ = some (.int .i64 x.day) ∧
    w.cell? ⟨g, o + i * 11 + 3, none⟩ = some (.int .i64 x.till) ∧ w.cell? ⟨g, o + i * 11 + 4, none⟩ = some (.slice ba x.body.length bc) ∧ w.cell? ⟨g, o + i * 11 + 5, none⟩ = some (.int .i64 x.arrow) ∧ w.cell? ⟨g, o + i * 11 + 6, none⟩ = some (.bool x.head.neg) ∧ w.cell? ⟨g, o + i * 11 + 7, none⟩ = some (str x.head.pred) ∧
    w.cell? ⟨g, o + i * 11 + 8, none⟩ = some (.slice ka x.head.args.length kc) ∧ w.cell? ⟨g, o + i * 11 + 9, none⟩ = some (.bool x.head.hasValue) ∧ w.cell? ⟨g, o + i * 11 + 10, none⟩ = some (.int .i64 x.head.value) ∧
    x.name.length ≤ maxLen ∧ x.source.length ≤ maxLen ∧ x.head.pred.length ≤ maxLen ∧ Prems N w x.body (.slice ba x.body.length bc) ∧ Strs N w x.head.args (.slice ka x.head.args.length kc) := by
  obtain ⟨g, o, xs, ea, hg, _, hc, bv, ls, rfl, h1, h2, h3, av, rfl, h4, h5⟩ := RR.open h hx
  obtain ⟨ba, bc, rfl, _⟩ := h3.form
  obtain ⟨ka, kc, rfl, _⟩ := h5.form
  exact ⟨g, o, ba, bc, ka, kc, ea, hg, hc 0 _ rfl, hc 1 _ rfl, hc 2 _ rfl, hc 3 _ rfl, hc 4 _ rfl, hc 5 _ rfl, hc 6 _ rfl, hc 7 _ rfl, hc 8 _ rfl, hc 9 _ rfl, hc 10 _ rfl, h1, h2, h4, h3, h5⟩
end
end Go.Proofs.YtbdlgglbcaoakaaGreat
/- .. where the key is an exception. -/
namespace Go.Proofs.YtbdlgglbcaoakaaGreat
open Go.RowKit Go.Shelf Go.Maps Go.WideMaps

theorem keyE_mk {e : Bytes × Bytes} (h1 : e.1.length ≤ maxLen) (h2 : e.2.length ≤ maxLen) : keyOf Tryz.prog 41 (.agg #[str e.1, str e.2]) = some (.string (keyE e)) := by
  unfold keyOf
  simp only [Tryz.underlying41]
  rw [if_pos (by rw [keyTypeE]; simp [Value.formed, Tryz.underlying41, cellsE])]
  have hm : ∃ m, Tryz.prog.types.size + 1 = m + 1 + 1 := ⟨Tryz.prog.types.size - 1, by have : 0 < Tryz.prog.types.size := of_decide_eq_true (by kernel_rfl); omega⟩
  obtain ⟨m, hm⟩ := hm
  rw [hm]
  have hl : ∀ s : Bytes, s.length ≤ maxLen → Tryz.prog.keyLits (m + 1) 9 [str s] = some [.string s] := by
    intro s hs
    unfold Program.keyLits str
    simp only [Tryz.underlying9]
    rw [if_pos (by show s.toArray.size ≤ maxLen; simpa using hs)]
  unfold Program.keyLits
  simp only [Tryz.underlying41, Value.cells]
  rw [if_pos ⟨by rw [cellsE]; rfl, by first | kernel_rfl | simp⟩]
  have e1 : Tryz.prog.cellsOf 9 = 1 := by kernel_rfl
  simp [List.mapM_cons, List.mapM_nil, e1, hl _ h1, hl _ h2, keyE]

section
variable {w : World} {b : Nat} {l : List Bytes}
set_option maxRecDepth 100000 in
set_option maxHeartbeats 3200000 in
theorem putE_any (hm : KMap 41 w b l) (hl : l.length ≤ 4096) (x : Bytes × Bytes) (hx1 : x.1.length ≤ maxLen) (hx2 : x.2.length ≤ maxLen) :
    Calls Tryz.prog 93 #[.map (some b), .agg #[str x.1, str x.2], .int .i64 l.length] w fun e w' => e = .returned (.bool (!decide (keyE x ∈ l))) ∧ KMap 41 w' b (l ++ [keyE x]) ∧ Fr (fun k => k = b) w w' := by
  obtain ⟨n, D, h1, h2, h3⟩ := hm
  have HK := hide (keyE_mk hx1 hx2)
  have HWF := hide (wf64 (Nat.le_trans hl (by decide)))
  have HA := hide ((Below.refl w.heap.size w).alloc (Nat.le_refl _) (.cells #[str x.1, str x.2] 41))
  have hm : (w.alloc (.cells #[str x.1, str x.2] 41)).ownsMap (H := Unit) Tryz.prog 41 (plainElem Tryz.prog 3) b n D := h1.alloc _
  have H1 := hide h1
  have H2 := hide h2
  have H3 := hide h3
  cases hh : decide (keyE x ∈ l) with
  | true =>
    have hd : Maps.has D (.string (keyE x)) = true := (h2 _).1.trans hh
    have HH := hide (of_decide_eq_true hh)
    clear h1 h2 h3 hh
    unfold str at *
    go_enter Tryz.func93, Tryz.ntmps93
    go_wp2_with (at_lookup; go_must (refine wpList_lookup_own_ok_int _ rfl _ _ 84 rfl 41 3 .i64 lawE Tryz.underlying84 Tryz.underlying3 (Tryz.zeroValue3 _) b n _ rfl hm _ _ rfl HK.out ?_); intro cc hat hwc; rw [hd])
    go_ret
    exact ⟨rfl, ⟨n, D, hm, num_same H2.out HH.out, by have := H3.out; simp; omega⟩, .of_below HA.out⟩
  | false =>
    have hd : Maps.has D (.string (keyE x)) = false := (h2 _).1.trans hh
    have HH := hide (of_decide_eq_false hh)
    clear h1 h2 hh
    unfold str at *
    go_enter Tryz.func93, Tryz.ntmps93
    go_wp2_with (first | (at_lookup; go_must (refine wpList_lookup_own_ok_int _ rfl _ _ 84 rfl 41 3 .i64 lawE Tryz.underlying84 Tryz.underlying3 (Tryz.zeroValue3 _) b n _ rfl hm _ _ rfl HK.out ?_); intro cc hat hwc; rw [hd]) | (at_mapUpdate; go_must (refine wpList_mapUpdate_own _ rfl _ _ _ 84 rfl 41 3 lawE Tryz.underlying84 _ b n _ rfl hm (by unfold maxLen; omega) _ _ _ rfl rfl HK.out _ [] (plainElem_int Tryz.underlying3 HWF.out) ?_); intro w1 hm1 hg1))
    go_ret
    exact ⟨rfl, ⟨_, _, hm1, num_put H2.out (H1.out.tidy lawE).isMap HH.out, by simp; omega⟩, (Fr.of_below HA.out).trans (.of_grown hg1 fun k e => by cases e; rfl)⟩
end
end Go.Proofs.YtbdlgglbcaoakaaGreat
