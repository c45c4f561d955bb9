/- turned, walked. -/
import Derived.Test.YthifoamnmhlghaaTrl
import Derived.Test.YthifoamnmhlghaaInjB
namespace Go.Proofs.Ythifoamnmhlghaa.Fa
open Go.RowKit Rg

theorem sml_of {T : Th} (h : OkT T) : Sml T := by
  have h1 := h.l1
  have h2 := h.fl
  have h3 := h.rl
  have h4 := h.bl
  refine ⟨by omega, fun i l hi => ?_, by omega, fun i x hi => ?_, by omega, fun i l hi => ?_⟩
  · have := (h.foe i l hi).1; omega
  · have := (h.rule x (List.mem_of_getElem? hi)).2.2.2.2.1; omega
  · have := rises_len (h.beat i l hi).1; omega
theorem owns_fx {w : World} {b e k n : Nat} {v : Value} {xs : List Value} (h : w.ownsRow b e k v n xs) (hn : 0 < n) : ∃ g cap cur, v = .slice (some ⟨g, 0, none⟩) n cap ∧ b ≤ g ∧ Fx g e cur w ∧ n ≤ cap ∧ cap ≤ maxLen ∧ cur.length = cap * k ∧ cur.take (n * k) = xs := by
  rcases h.2 with ⟨-, h0⟩ | ⟨g, cap, cur, e1, e2, e3, e4, e5, e6, e7⟩
  · omega
  · exact ⟨g, cap, cur.toList, e1, e2, by unfold Fx; rw [e3], e4, e5, by rw [Array.length_toList]; exact e6, e7⟩
theorem chunk3 {xs : List Value} {i : Nat} {u0 u1 u2 : Value} (h : (xs.drop (i * 3)).take 3 = [u0, u1, u2]) : xs[i * 3]? = some u0 ∧ xs[i * 3 + 1]? = some u1 ∧ xs[i * 3 + 2]? = some u2 := by
  refine ⟨?_, ?_, ?_⟩
  · have := congrArg (fun l => l[0]?) h
    simpa [List.getElem?_take, List.getElem?_drop] using this
  · have := congrArg (fun l => l[1]?) h
    simpa [List.getElem?_take, List.getElem?_drop] using this
  · have := congrArg (fun l => l[2]?) h
    simpa [List.getElem?_take, List.getElem?_drop] using this
theorem chunk1 {xs : List Value} {i : Nat} {u0 : Value} (h : (xs.drop (i * 1)).take 1 = [u0]) : xs[i]? = some u0 := by
  have := congrArg (fun l => l[0]?) h
  simpa [List.getElem?_take, List.getElem?_drop] using this
theorem of_take {α : Type} {cur xs : List α} {m j : Nat} {u : α} (h : cur.take m = xs) (hj : xs[j]? = some u) : cur[j]? = some u := by
  rw [← h, List.getElem?_take] at hj
  split at hj
  · exact hj
  · cases hj
theorem ws3_b {L : Nat → Bool} {i1 i2 i3 : Nat} {w0 w2 w3 : World} (h2 : L i2 = false) (h3 : L i3 = false) : ws3 i1 i2 i3 w0 w0 w2 w3 L = w0 := by unfold ws3; rw [h2, h3]; simp
theorem ws3_same {L : Nat → Bool} {i1 i2 i3 : Nat} {w0 w2 w3 : World} (h2 : i2 ≠ i1) (h3 : i3 ≠ i1) : ws3 i1 i2 i3 w0 w0 w2 w3 (more L i1) = ws3 i1 i2 i3 w0 w0 w2 w3 L := by unfold ws3; rw [more_off h2, more_off h3]; simp
theorem rep_rowB2 {n : Nat} : Array.replicate n (Value.bool false) = (rowB n fun _ => false).toArray := by
  unfold rowB
  rw [List.map_const', List.length_range, List.toArray_replicate]
theorem rz_at {Z : Nat → Prop} {w : World} {l : List Int} {va : Option Addr} {n vc k : Nat} {z : Int} (h : RZ Z 1 cI w l (.slice va n vc)) (hx : l[k]? = some z) : ∃ g o, va = some ⟨g, o, none⟩ ∧ Z g ∧ w.cell? ⟨g, o + k, none⟩ = some (.int .i64 z) := by
  obtain ⟨a, cap, e, -, -, h⟩ := h
  cases e
  obtain ⟨g, o, xs, ea, hg, -, hc, rfl⟩ := h k z hx
  exact ⟨g, o, ea, hg, by have := hc 0 _ rfl; rw [Nat.mul_one, Nat.add_zero] at this; exact this⟩
theorem take_sw {l : List Int} {a b k : Nat} {x z : Int} (hx : l[k]? = some x) : z ∈ (l.take (k + 1)).map (sw a b) ↔ z ∈ (l.take k).map (sw a b) ∨ z = sw a b x := by
  rw [take_snoc hx]
  simp
theorem rows_swapped {T : Th} {a b N : Nat} {Z : Nat → Prop} {w1 wc : World} {curB ys : List Value} {lX lY : List Int} {vX vY : Value} (hbl : T.beats.length = N) (ha : a < N) (hb : b < N) (hct : curB.take (T.beats.length * 1) = ys) (hy : ys.length = N) (hcl : N ≤ curB.length) (hbe : ∀ i x, T.beats[i]? = some x → cLz Z w1 x ((ys.drop (i * 1)).take 1)) (hX : T.beats[a]? = some lX ∧ RZ Z 1 cI w1 lX vX) (hY : T.beats[b]? = some lY ∧ RZ Z 1 cI w1 lY vY) (hag : Ag Z Z w1 wc) {i : Nat} (hi : i < N) :
    ∃ va vc, ((curB.set a vY).set b vX)[i]? = some (.slice va (row T.beats (sw a b i)).length vc) ∧ RZ Z 1 cI wc (row T.beats (sw a b i)) (.slice va (row T.beats (sw a b i)).length vc) := by
  have key : ∀ l v, T.beats[sN a b i]? = some l → ((curB.set a vY).set b vX)[i]? = some v → RZ Z 1 cI w1 l v → ∃ va vc, ((curB.set a vY).set b vX)[i]? = some (.slice va (row T.beats (sw a b i)).length vc) ∧ RZ Z 1 cI wc (row T.beats (sw a b i)) (.slice va (row T.beats (sw a b i)).length vc) := fun l v h1 h2 h3 => by
    have e : row T.beats (sw a b i) = l := by rw [sw_nat]; exact row_at (by rw [Int.toNat_natCast]; exact h1)
    rw [e]
    obtain ⟨va, vc, rfl⟩ := h3.form
    exact ⟨va, vc, h2, RZ.keep h3 hag fun _ _ h => h⟩
  by_cases h1 : i = b
  · subst h1
    refine key lX vX ?_ (by rw [List.getElem?_set_self (by rw [List.length_set]; omega)]) hX.2
    unfold sN
    by_cases h2 : i = a
    · subst h2; rw [if_pos rfl]; exact hX.1
    · rw [if_neg h2, if_pos rfl]; exact hX.1
  · by_cases h2 : i = a
    · subst h2
      refine key lY vY ?_ (by rw [List.getElem?_set_ne (fun e => h1 e.symm), List.getElem?_set_self (by omega)]) hY.2
      unfold sN
      rw [if_pos rfl]; exact hY.1
    · obtain ⟨l, hl⟩ := get_at (l := T.beats) (i := i) (by omega)
      obtain ⟨v, hv1, hv2⟩ := hbe i l hl
      refine key l v ?_ ?_ hv2
      · unfold sN; rw [if_neg h2, if_neg h1]; exact hl
      · rw [List.getElem?_set_ne (fun e => h1 e.symm), List.getElem?_set_ne (fun e => h2 e.symm)]
        exact of_take hct (chunk1 hv1)
set_option maxRecDepth 100000 in
set_option maxHeartbeats 12800000 in
theorem turned_ok {w : World} {T : Th} {fa ra ba : Option Addr} {fc rc bc : Nat} {a b : Nat} {x y : RuleM} (h : TA w.heap.size w T fa fc ra rc ba bc) (hck : (checkM T).1 = 0) (hx : T.rules[a]? = some x) (hy : T.rules[b]? = some y) :
    Calls Try.prog 12 #[tv T fa fc ra rc ba bc, .int .i64 a, .int .i64 b] w fun e w' => ∃ fa2 fc2 ra2 rc2 ba2 bc2, e = .returned (tv (turnT T a b x y) fa2 fc2 ra2 rc2 ba2 bc2) ∧ (∀ w5 : World, w'.heap.size ≤ w5.heap.size → (∀ k, w.heap.size ≤ k → k < w'.heap.size → w5.heap[k]? = w'.heap[k]?) → TA w5.heap.size w5 (turnT T a b x y) fa2 fc2 ra2 rc2 ba2 bc2) ∧ Below w.heap.size w w' := by
  have hok := check_ok hck
  have HX := hide hx
  have HY := hide hy
  have HOK := hide hok
  have HS := hide (sml_of hok)
  have ha : a < T.rules.length := (List.getElem?_eq_some_iff.1 hx).1
  have hb : b < T.rules.length := (List.getElem?_eq_some_iff.1 hy).1
  have hrl := hok.rl
  have HBL := hide hok.bl
  have hF1 : Fx w.heap.size 25 [.int .i64 T.lits, .slice fa T.foes.length fc, .slice ra T.rules.length rc, .slice ba T.beats.length bc] (w.alloc (.cells #[.int .i64 T.lits, .slice fa T.foes.length fc, .slice ra T.rules.length rc, .slice ba T.beats.length bc] 25)) := heap_alloc_new w (.cells #[.int .i64 T.lits, .slice fa T.foes.length fc, .slice ra T.rules.length rc, .slice ba T.beats.length bc] 25)
  have hF2 : Fx (w.heap.size + 1) 25 [.int .i64 0, .slice none 0 0, .slice none 0 0, .slice none 0 0] ((w.alloc (.cells #[.int .i64 T.lits, .slice fa T.foes.length fc, .slice ra T.rules.length rc, .slice ba T.beats.length bc] 25)).alloc (.cells #[.int .i64 0, .slice none 0 0, .slice none 0 0, .slice none 0 0] 25)) := by
    have := heap_alloc_new (w.alloc (.cells #[.int .i64 T.lits, .slice fa T.foes.length fc, .slice ra T.rules.length rc, .slice ba T.beats.length bc] 25)) (.cells #[.int .i64 0, .slice none 0 0, .slice none 0 0, .slice none 0 0] 25)
    have e : (w.alloc (.cells #[.int .i64 T.lits, .slice fa T.foes.length fc, .slice ra T.rules.length rc, .slice ba T.beats.length bc] 25)).heap.size = w.heap.size + 1 := by simp
    rw [e] at this
    exact this
  have hB1 := below_new w (.cells #[.int .i64 T.lits, .slice fa T.foes.length fc, .slice ra T.rules.length rc, .slice ba T.beats.length bc] 25)
  have hB2 := below_new (w.alloc (.cells #[.int .i64 T.lits, .slice fa T.foes.length fc, .slice ra T.rules.length rc, .slice ba T.beats.length bc] 25)) (.cells #[.int .i64 0, .slice none 0 0, .slice none 0 0, .slice none 0 0] 25)
  have HF1 := hide (hF1.keep (hB2.block _ hF1.lt))
  have HF2 := hide hF2
  have HB := hide (hB1.trans (hB2.mono hB1.size))
  have HT := hide (TR.go (hB1.trans (hB2.mono hB1.size)) h)
  clear hF1 hF2 hB1 hB2 h hck hx hy hok
  go_enter Try.func12, Try.ntmps12
  go_upto_region 1 with fail
  generalize (w.alloc (.cells #[.int .i64 T.lits, .slice fa T.foes.length fc, .slice ra T.rules.length rc, .slice ba T.beats.length bc] 25)).alloc (.cells #[.int .i64 0, .slice none 0 0, .slice none 0 0, .slice none 0 0] 25) = W at *
  have hl2 := HF2.out.lt
  have C1 := hide (copyTheory_any HT.out HS.out)
  obtain ⟨-, c0, c1, c2, c3⟩ := Bt.of HF1.out
  go_upto_region 2 with (go_at_call 21; refine C1.out.mono ?_; rintro _ w1 ⟨fa2, fc2, ra2, rc2, ba2, bc2, xs, ys, Z, rfl, htw, hbl1⟩; have HTW := hide htw; have HL1 := hide hbl1; clear htw hbl1)
  clear c0 c1 c2 c3 C1 HF1
  obtain ⟨g, cap, cur, hra, hgb, hgf, hnc, hcm, hcl, hct⟩ := owns_fx HTW.out.r (by omega)
  obtain ⟨rfl, rfl⟩ : ra2 = some ⟨g, 0, none⟩ ∧ rc2 = cap := by cases hra; exact ⟨rfl, rfl⟩
  obtain ⟨xv, hx1, hx2⟩ := HTW.out.re a x HX.out
  obtain ⟨yv, hy1, hy2⟩ := HTW.out.re b y HY.out
  obtain ⟨xa, xc, rfl⟩ := hx2.form
  obtain ⟨ya, yc, rfl⟩ := hy2.form
  obtain ⟨ex0, ex1, ex2⟩ := chunk3 hx1
  obtain ⟨ey0, ey1, ey2⟩ := chunk3 hy1
  have hA := below_new w1 (.cells #[.int .i64 T.lits, .slice fa2 T.foes.length fc2, .slice (some ⟨g, 0, none⟩) T.rules.length rc2, .slice ba2 T.beats.length bc2] 25)
  have hq0 : Fx w1.heap.size 25 [.int .i64 T.lits, .slice fa2 T.foes.length fc2, .slice (some ⟨g, 0, none⟩) T.rules.length rc2, .slice ba2 T.beats.length bc2] (w1.alloc (.cells #[.int .i64 T.lits, .slice fa2 T.foes.length fc2, .slice (some ⟨g, 0, none⟩) T.rules.length rc2, .slice ba2 T.beats.length bc2] 25)) := heap_alloc_new w1 _
  have hg0 := hgf.keep (hA.block _ hgf.lt)
  generalize hw0 : (w1.alloc (.cells #[.int .i64 T.lits, .slice fa2 T.foes.length fc2, .slice (some ⟨g, 0, none⟩) T.rules.length rc2, .slice ba2 T.beats.length bc2] 25)) = v0 at *
  generalize hqq : w1.heap.size = q at *
  obtain ⟨xk, hxk⟩ : ∃ z, x.kind = z := ⟨_, rfl⟩
  obtain ⟨xh, hxh⟩ : ∃ z, x.head = z := ⟨_, rfl⟩
  obtain ⟨yk, hyk⟩ : ∃ z, y.kind = z := ⟨_, rfl⟩
  obtain ⟨yh, hyh⟩ : ∃ z, y.head = z := ⟨_, rfl⟩
  rw [hxk] at ex0
  rw [hxh] at ex1
  rw [hyk] at ey0
  rw [hyh] at ey1
  obtain ⟨w0, HW0⟩ : ∃ w0, Hid (v0.drew = w0) := ⟨_, hide rfl⟩
  have hqd : Fx q 25 [.int .i64 T.lits, .slice fa2 T.foes.length fc2, .slice (some ⟨g, 0, none⟩) T.rules.length rc2, .slice ba2 T.beats.length bc2] w0 := by rw [← HW0.out]; exact hq0
  have hgd : Fx g 42 cur w0 := by rw [← HW0.out]; exact hg0
  obtain ⟨wa, HWA⟩ : ∃ wa, Hid (((w0.setCell ⟨g, a * 3, none⟩ (.int .i64 yk)).setCell ⟨g, a * 3 + 1, none⟩ (.int .i64 yh)).setCell ⟨g, a * 3 + 2, none⟩ (.slice ya y.body.length yc) = wa) := ⟨_, hide rfl⟩
  have hqa : Fx q 25 [.int .i64 T.lits, .slice fa2 T.foes.length fc2, .slice (some ⟨g, 0, none⟩) T.rules.length rc2, .slice ba2 T.beats.length bc2] wa := by
    have hne := fx_ne hqd hgd (by decide)
    rw [← HWA.out]
    exact hqd.keep (by rw [other_set hne, other_set hne, other_set hne])
  have hga : Fx g 42 (((cur.set (a * 3) (.int .i64 yk)).set (a * 3 + 1) (.int .i64 yh)).set (a * 3 + 2) (.slice ya y.body.length yc)) wa := by rw [← HWA.out]; exact ((hgd.set _ _).set _ _).set _ _
  obtain ⟨wb, HWB⟩ : ∃ wb, Hid (((wa.setCell ⟨g, b * 3, none⟩ (.int .i64 xk)).setCell ⟨g, b * 3 + 1, none⟩ (.int .i64 xh)).setCell ⟨g, b * 3 + 2, none⟩ (.slice xa x.body.length xc) = wb) := ⟨_, hide rfl⟩
  have hqb : Fx q 25 [.int .i64 T.lits, .slice fa2 T.foes.length fc2, .slice (some ⟨g, 0, none⟩) T.rules.length rc2, .slice ba2 T.beats.length bc2] wb := by
    have hne := fx_ne hqa hga (by decide)
    rw [← HWB.out]
    exact hqa.keep (by rw [other_set hne, other_set hne, other_set hne])
  have hgb2 : Fx g 42 ((((((cur.set (a * 3) (.int .i64 yk)).set (a * 3 + 1) (.int .i64 yh)).set (a * 3 + 2) (.slice ya y.body.length yc)).set (b * 3) (.int .i64 xk)).set (b * 3 + 1) (.int .i64 xh)).set (b * 3 + 2) (.slice xa x.body.length xc)) wb := by rw [← HWB.out]; exact ((hga.set _ _).set _ _).set _ _
  have LB : Hid (∀ X, X = w0 ∨ X = w0 ∨ X = wa → X.cell? ⟨q, 2, none⟩ = some (.slice (some ⟨g, 0, none⟩) T.rules.length rc2)) := hide fun X hX => by
    rcases hX with rfl | rfl | rfl
    · exact hqd.get (i := 2) rfl
    · exact hqd.get (i := 2) rfl
    · exact hqa.get (i := 2) rfl
  have LX : Hid (w0.cell? ⟨g, a * 3, none⟩ = some (.int .i64 xk) ∧ w0.cell? ⟨g, a * 3 + 1, none⟩ = some (.int .i64 xh) ∧ w0.cell? ⟨g, a * 3 + 2, none⟩ = some (.slice xa x.body.length xc)) := hide ⟨hgd.get (of_take hct ex0), hgd.get (of_take hct ex1), hgd.get (of_take hct ex2)⟩
  have LY : Hid (w0.cell? ⟨g, b * 3, none⟩ = some (.int .i64 yk) ∧ w0.cell? ⟨g, b * 3 + 1, none⟩ = some (.int .i64 yh) ∧ w0.cell? ⟨g, b * 3 + 2, none⟩ = some (.slice ya y.body.length yc)) := hide ⟨hgd.get (of_take hct ey0), hgd.get (of_take hct ey1), hgd.get (of_take hct ey2)⟩
  have SX : Hid (w0.cell? ⟨g, a * 3, none⟩ = some (.int .i64 xk) ∧ w0.cell? ⟨g, a * 3 + 1, none⟩ = some (.int .i64 xh) ∧ w0.cell? ⟨g, a * 3 + 2, none⟩ = some (.slice xa x.body.length xc) ∧ w0.frozen? ⟨g, a * 3, none⟩ = false ∧ w0.frozen? ⟨g, a * 3 + 1, none⟩ = false ∧ w0.frozen? ⟨g, a * 3 + 2, none⟩ = false) := hide ⟨LX.out.1, LX.out.2.1, LX.out.2.2, hgd.frz _, hgd.frz _, hgd.frz _⟩
  have SY : Hid (∃ z0 z1 z2, wa.cell? ⟨g, b * 3, none⟩ = some z0 ∧ wa.cell? ⟨g, b * 3 + 1, none⟩ = some z1 ∧ wa.cell? ⟨g, b * 3 + 2, none⟩ = some z2 ∧ wa.frozen? ⟨g, b * 3, none⟩ = false ∧ wa.frozen? ⟨g, b * 3 + 1, none⟩ = false ∧ wa.frozen? ⟨g, b * 3 + 2, none⟩ = false) := hide (by
    have e0 := (List.getElem?_eq_some_iff.1 (of_take hct ey0)).1
    have e1 := (List.getElem?_eq_some_iff.1 (of_take hct ey1)).1
    have e2 := (List.getElem?_eq_some_iff.1 (of_take hct ey2)).1
    obtain ⟨z0, h0⟩ := get_at (l := ((cur.set (a * 3) (.int .i64 yk)).set (a * 3 + 1) (.int .i64 yh)).set (a * 3 + 2) (.slice ya y.body.length yc)) (i := b * 3) (by simpa using e0)
    obtain ⟨z1, h1⟩ := get_at (l := ((cur.set (a * 3) (.int .i64 yk)).set (a * 3 + 1) (.int .i64 yh)).set (a * 3 + 2) (.slice ya y.body.length yc)) (i := b * 3 + 1) (by simpa using e1)
    obtain ⟨z2, h2⟩ := get_at (l := ((cur.set (a * 3) (.int .i64 yk)).set (a * 3 + 1) (.int .i64 yh)).set (a * 3 + 2) (.slice ya y.body.length yc)) (i := b * 3 + 2) (by simpa using e2)
    exact ⟨z0, z1, z2, hga.get h0, hga.get h1, hga.get h2, hga.frz _, hga.frz _, hga.frz _⟩)
  have HKB : Hid (∀ k, k ≠ g → k < q → wb.heap[k]? = w1.heap[k]?) := hide fun k hk hq => by
    rw [← HWB.out, other_set hk, other_set hk, other_set hk, ← HWA.out, other_set hk, other_set hk, other_set hk, ← HW0.out]
    exact (hA.block k (by omega))
  have hlo : W.heap.size ≤ g := hgb
  have HBW : Hid (Below W.heap.size W wb) := hide (by
    have h1 : Below W.heap.size W v0 := HL1.out.trans (hA.mono (by have := HL1.out.size; omega))
    have h2 : Below W.heap.size W w0 := by rw [← HW0.out]; exact h1.trans ((show Below v0.heap.size v0 v0.drew from ⟨rfl, rfl, rfl, Nat.le_refl _, fun _ _ => rfl⟩).mono h1.size)
    rw [← HWB.out, ← HWA.out]
    exact (((((h2.setCell (p := ⟨g, a * 3, none⟩) hlo _).setCell (p := ⟨g, a * 3 + 1, none⟩) hlo _).setCell (p := ⟨g, a * 3 + 2, none⟩) hlo _).setCell (p := ⟨g, b * 3, none⟩) hlo _).setCell (p := ⟨g, b * 3 + 1, none⟩) hlo _).setCell (p := ⟨g, b * 3 + 2, none⟩) hlo _)
  have HGF := hide hgf
  have HQB := hide hqb
  have HGB := hide hgb2
  have HQ0 := hide hq0
  have HG0 := hide hg0
  have HXR := hide hx2
  have HYR := hide hy2
  have HCT := hide hct
  have HHA := hide hA
  have HE := hide (And.intro (And.intro hxk hxh) (And.intro hyk hyh))
  have HEX := hide (And.intro ex0 (And.intro ex1 ex2))
  have HEY := hide (And.intro ey0 (And.intro ey1 ey2))
  clear hqd hgd hqa hga hqb hgb2 hq0 hg0 hx1 hx2 hy1 hy2 ex0 ex1 ex2 ey0 ey1 ey2 hct hcl hA hgf hra hxk hxh hyk hyh hw0
  have HOKD : Hid (okD ([some (15, .pointer (some ⟨q, 2, none⟩)), some (16, .slice (some ⟨g, 0, none⟩) T.rules.length rc2), some (17, .int .i64 a), some (18, .pointer (some ⟨q, 2, none⟩)), some (19, .slice (some ⟨g, 0, none⟩) T.rules.length rc2), some (20, .int .i64 b), some (21, .pointer (some ⟨q, 2, none⟩)), some (22, .slice (some ⟨g, 0, none⟩) T.rules.length rc2), some (23, .int .i64 b), some (24, .pointer (some ⟨g, b * 3, none⟩)), some (25, .agg #[.int .i64 yk, .int .i64 yh, .slice ya y.body.length yc]), some (26, .pointer (some ⟨q, 2, none⟩)), some (27, .slice (some ⟨g, 0, none⟩) T.rules.length rc2), some (28, .int .i64 a), some (29, .pointer (some ⟨g, a * 3, none⟩)), some (30, .agg #[.int .i64 xk, .int .i64 xh, .slice xa x.body.length xc]), some (31, .pointer (some ⟨g, a * 3, none⟩)), none, some (32, .pointer (some ⟨g, b * 3, none⟩)), none].map fun p : Option (Nat × Value) => p.map Prod.fst) [(7, ptr q), (1, .int .i64 a), (2, .int .i64 b)] = true) := hide rfl
  refine Rg2.region_j NoE (Jt [some (15, .pointer (some ⟨q, 2, none⟩)), some (16, .slice (some ⟨g, 0, none⟩) T.rules.length rc2), some (17, .int .i64 a), some (18, .pointer (some ⟨q, 2, none⟩)), some (19, .slice (some ⟨g, 0, none⟩) T.rules.length rc2), some (20, .int .i64 b), some (21, .pointer (some ⟨q, 2, none⟩)), some (22, .slice (some ⟨g, 0, none⟩) T.rules.length rc2), some (23, .int .i64 b), some (24, .pointer (some ⟨g, b * 3, none⟩)), some (25, .agg #[.int .i64 yk, .int .i64 yh, .slice ya y.body.length yc]), some (26, .pointer (some ⟨q, 2, none⟩)), some (27, .slice (some ⟨g, 0, none⟩) T.rules.length rc2), some (28, .int .i64 a), some (29, .pointer (some ⟨g, a * 3, none⟩)), some (30, .agg #[.int .i64 xk, .int .i64 xh, .slice xa x.body.length xc]), some (31, .pointer (some ⟨g, a * 3, none⟩)), none, some (32, .pointer (some ⟨g, b * 3, none⟩)), none] [(7, ptr q), (1, .int .i64 a), (2, .int .i64 b)] (ws3 16 17 19 w0 w0 wa wb)) (by kernel_rfl) (by kernel_rfl) ?_ (Rg2.steps_j ⟨?_, ?_, ?_, ?_, ?_, ?_, ?_, ?_, ?_, ?_, ?_, ?_, ?_, ?_, ?_, ?_, ?_, ?_, ?_, ?_, trivial⟩) ?_ ?_
  · exact ⟨fun p hp => by simp at hp; rcases hp with rfl | rfl | rfl <;> rfl, fun i d v _ hL => (by cases hL), HW0.out⟩
  · intro ρ X L hc hf hL hd hcl hJ
    have k7 : ρ (.tmp 7) = ptr q := hJ.base (7, ptr q) (by simp)
    refine does_value (v := .pointer (some ⟨q, 2, none⟩)) (w' := X) ?_ (hJ.put HOKD.out rfl (by rw [ws3_off (by decide) (by decide) (by decide)]; exact hJ.wd))
    clear hd hcl hJ hL
    go_simp
  · intro ρ X L hc hf hL hd hcl hJ
    have k15 : ρ (.tmp 15) = .pointer (some ⟨q, 2, none⟩) := hJ.vals 0 15 (.pointer (some ⟨q, 2, none⟩)) rfl (hd ⟨0, .data⟩ (by simp) rfl)
    have hst : L 19 = false := not_done (by kernel_rfl) hcl (k := 1) (by simp) hL
    have hx := LB.out X (ws3_in hJ.wd hst)
    clear hst
    refine does_value (v := .slice (some ⟨g, 0, none⟩) T.rules.length rc2) (w' := X) ?_ (hJ.put HOKD.out rfl (by rw [ws3_off (by decide) (by decide) (by decide)]; exact hJ.wd))
    clear hd hcl hJ hL
    go_simp
  · intro ρ X L hc hf hL hd hcl hJ
    have k1 : ρ (.tmp 1) = .int .i64 a := hJ.base (1, .int .i64 a) (by simp)
    refine does_value (v := .int .i64 a) (w' := X) ?_ (hJ.put HOKD.out rfl (by rw [ws3_off (by decide) (by decide) (by decide)]; exact hJ.wd))
    clear hd hcl hJ hL
    go_simp
  · intro ρ X L hc hf hL hd hcl hJ
    have k7 : ρ (.tmp 7) = ptr q := hJ.base (7, ptr q) (by simp)
    refine does_value (v := .pointer (some ⟨q, 2, none⟩)) (w' := X) ?_ (hJ.put HOKD.out rfl (by rw [ws3_off (by decide) (by decide) (by decide)]; exact hJ.wd))
    clear hd hcl hJ hL
    go_simp
  · intro ρ X L hc hf hL hd hcl hJ
    have k18 : ρ (.tmp 18) = .pointer (some ⟨q, 2, none⟩) := hJ.vals 3 18 (.pointer (some ⟨q, 2, none⟩)) rfl (hd ⟨3, .data⟩ (by simp) rfl)
    have hst : L 19 = false := not_done (by kernel_rfl) hcl (k := 4) (by simp) hL
    have hx := LB.out X (ws3_in hJ.wd hst)
    clear hst
    refine does_value (v := .slice (some ⟨g, 0, none⟩) T.rules.length rc2) (w' := X) ?_ (hJ.put HOKD.out rfl (by rw [ws3_off (by decide) (by decide) (by decide)]; exact hJ.wd))
    clear hd hcl hJ hL
    go_simp
  · intro ρ X L hc hf hL hd hcl hJ
    have k2 : ρ (.tmp 2) = .int .i64 b := hJ.base (2, .int .i64 b) (by simp)
    refine does_value (v := .int .i64 b) (w' := X) ?_ (hJ.put HOKD.out rfl (by rw [ws3_off (by decide) (by decide) (by decide)]; exact hJ.wd))
    clear hd hcl hJ hL
    go_simp
  · intro ρ X L hc hf hL hd hcl hJ
    have k7 : ρ (.tmp 7) = ptr q := hJ.base (7, ptr q) (by simp)
    refine does_value (v := .pointer (some ⟨q, 2, none⟩)) (w' := X) ?_ (hJ.put HOKD.out rfl (by rw [ws3_off (by decide) (by decide) (by decide)]; exact hJ.wd))
    clear hd hcl hJ hL
    go_simp
  · intro ρ X L hc hf hL hd hcl hJ
    have k21 : ρ (.tmp 21) = .pointer (some ⟨q, 2, none⟩) := hJ.vals 6 21 (.pointer (some ⟨q, 2, none⟩)) rfl (hd ⟨6, .data⟩ (by simp) rfl)
    have hst : L 19 = false := not_done (by kernel_rfl) hcl (k := 7) (by simp) hL
    have hx := LB.out X (ws3_in hJ.wd hst)
    clear hst
    refine does_value (v := .slice (some ⟨g, 0, none⟩) T.rules.length rc2) (w' := X) ?_ (hJ.put HOKD.out rfl (by rw [ws3_off (by decide) (by decide) (by decide)]; exact hJ.wd))
    clear hd hcl hJ hL
    go_simp
  · intro ρ X L hc hf hL hd hcl hJ
    have k2 : ρ (.tmp 2) = .int .i64 b := hJ.base (2, .int .i64 b) (by simp)
    refine does_value (v := .int .i64 b) (w' := X) ?_ (hJ.put HOKD.out rfl (by rw [ws3_off (by decide) (by decide) (by decide)]; exact hJ.wd))
    clear hd hcl hJ hL
    go_simp
  · intro ρ X L hc hf hL hd hcl hJ
    have k22 : ρ (.tmp 22) = .slice (some ⟨g, 0, none⟩) T.rules.length rc2 := hJ.vals 7 22 (.slice (some ⟨g, 0, none⟩) T.rules.length rc2) rfl (hd ⟨7, .data⟩ (by simp) rfl)
    have k23 : ρ (.tmp 23) = .int .i64 b := hJ.vals 8 23 (.int .i64 b) rfl (hd ⟨8, .data⟩ (by simp) rfl)
    refine does_value (v := .pointer (some ⟨g, b * 3, none⟩)) (w' := X) ?_ (hJ.put HOKD.out rfl (by rw [ws3_off (by decide) (by decide) (by decide)]; exact hJ.wd))
    clear hd hcl hJ hL
    go_simp
  · intro ρ X L hc hf hL hd hcl hJ
    have k24 : ρ (.tmp 24) = .pointer (some ⟨g, b * 3, none⟩) := hJ.vals 9 24 (.pointer (some ⟨g, b * 3, none⟩)) rfl (hd ⟨9, .data⟩ (by simp) rfl)
    have hst : L 19 = false := not_done (by kernel_rfl) hcl (k := 10) (by simp) hL
    have hap : L 17 = false := by cases e : L 17 with | false => rfl | true => (have := hcl 17 _ rfl e ⟨10, .phase⟩ (by simp) rfl; rw [show (⟨10, .phase⟩ : Edge).on = 10 from rfl] at this; rw [hL] at this; cases this)
    have hX := hJ.wd.trans (ws3_b hap hst)
    have hx := LY.out
    rw [← hX] at hx
    refine does_value (v := .agg #[.int .i64 yk, .int .i64 yh, .slice ya y.body.length yc]) (w' := X) ?_ (hJ.put HOKD.out rfl (by rw [ws3_off (by decide) (by decide) (by decide)]; exact hJ.wd))
    clear hd hcl hJ hL hst hap hX
    obtain ⟨h0, h1, h2⟩ := hx
    go_simp
  · intro ρ X L hc hf hL hd hcl hJ
    have k7 : ρ (.tmp 7) = ptr q := hJ.base (7, ptr q) (by simp)
    refine does_value (v := .pointer (some ⟨q, 2, none⟩)) (w' := X) ?_ (hJ.put HOKD.out rfl (by rw [ws3_off (by decide) (by decide) (by decide)]; exact hJ.wd))
    clear hd hcl hJ hL
    go_simp
  · intro ρ X L hc hf hL hd hcl hJ
    have k26 : ρ (.tmp 26) = .pointer (some ⟨q, 2, none⟩) := hJ.vals 11 26 (.pointer (some ⟨q, 2, none⟩)) rfl (hd ⟨11, .data⟩ (by simp) rfl)
    have hst : L 19 = false := not_done (by kernel_rfl) hcl (k := 12) (by simp) hL
    have hx := LB.out X (ws3_in hJ.wd hst)
    clear hst
    refine does_value (v := .slice (some ⟨g, 0, none⟩) T.rules.length rc2) (w' := X) ?_ (hJ.put HOKD.out rfl (by rw [ws3_off (by decide) (by decide) (by decide)]; exact hJ.wd))
    clear hd hcl hJ hL
    go_simp
  · intro ρ X L hc hf hL hd hcl hJ
    have k1 : ρ (.tmp 1) = .int .i64 a := hJ.base (1, .int .i64 a) (by simp)
    refine does_value (v := .int .i64 a) (w' := X) ?_ (hJ.put HOKD.out rfl (by rw [ws3_off (by decide) (by decide) (by decide)]; exact hJ.wd))
    clear hd hcl hJ hL
    go_simp
  · intro ρ X L hc hf hL hd hcl hJ
    have k27 : ρ (.tmp 27) = .slice (some ⟨g, 0, none⟩) T.rules.length rc2 := hJ.vals 12 27 (.slice (some ⟨g, 0, none⟩) T.rules.length rc2) rfl (hd ⟨12, .data⟩ (by simp) rfl)
    have k28 : ρ (.tmp 28) = .int .i64 a := hJ.vals 13 28 (.int .i64 a) rfl (hd ⟨13, .data⟩ (by simp) rfl)
    refine does_value (v := .pointer (some ⟨g, a * 3, none⟩)) (w' := X) ?_ (hJ.put HOKD.out rfl (by rw [ws3_off (by decide) (by decide) (by decide)]; exact hJ.wd))
    clear hd hcl hJ hL
    go_simp
  · intro ρ X L hc hf hL hd hcl hJ
    have k29 : ρ (.tmp 29) = .pointer (some ⟨g, a * 3, none⟩) := hJ.vals 14 29 (.pointer (some ⟨g, a * 3, none⟩)) rfl (hd ⟨14, .data⟩ (by simp) rfl)
    have hst : L 19 = false := not_done (by kernel_rfl) hcl (k := 15) (by simp) hL
    have hap : L 17 = false := by cases e : L 17 with | false => rfl | true => (have := hcl 17 _ rfl e ⟨15, .phase⟩ (by simp) rfl; rw [show (⟨15, .phase⟩ : Edge).on = 15 from rfl] at this; rw [hL] at this; cases this)
    have hX := hJ.wd.trans (ws3_b hap hst)
    have hx := LX.out
    rw [← hX] at hx
    refine does_value (v := .agg #[.int .i64 xk, .int .i64 xh, .slice xa x.body.length xc]) (w' := X) ?_ (hJ.put HOKD.out rfl (by rw [ws3_off (by decide) (by decide) (by decide)]; exact hJ.wd))
    clear hd hcl hJ hL hst hap hX
    obtain ⟨h0, h1, h2⟩ := hx
    go_simp
  · intro ρ X L hc hf hL hd hcl hJ
    have k16 : ρ (.tmp 16) = .slice (some ⟨g, 0, none⟩) T.rules.length rc2 := hJ.vals 1 16 (.slice (some ⟨g, 0, none⟩) T.rules.length rc2) rfl (hd ⟨1, .data⟩ (by simp) rfl)
    have k17 : ρ (.tmp 17) = .int .i64 a := hJ.vals 2 17 (.int .i64 a) rfl (hd ⟨2, .data⟩ (by simp) rfl)
    refine does_value (v := .pointer (some ⟨g, a * 3, none⟩)) (w' := X) ?_ (hJ.put HOKD.out rfl (hJ.wd.trans (ws3_same (by decide) (by decide)).symm))
    clear hd hcl hJ hL
    go_simp
  · intro ρ X L hc hf hL hd hcl hJ
    have k31 : ρ (.tmp 31) = .pointer (some ⟨g, a * 3, none⟩) := hJ.vals 16 31 (.pointer (some ⟨g, a * 3, none⟩)) rfl (hd ⟨16, .data⟩ (by simp) rfl)
    have k25 : ρ (.tmp 25) = .agg #[.int .i64 yk, .int .i64 yh, .slice ya y.body.length yc] := hJ.vals 10 25 (.agg #[.int .i64 yk, .int .i64 yh, .slice ya y.body.length yc]) rfl (hd ⟨10, .data⟩ (by simp) rfl)
    have hst : L 19 = false := not_done (by kernel_rfl) hcl (k := 17) (by simp) hL
    have hX := hJ.wd.trans (ws3_b hL hst)
    refine does_skip (w' := wa) ?_ (hJ.last rfl ((ws3_2 more_at (by rw [more_off (by decide)]; exact hst)).symm))
    have hx := SX.out
    subst hX
    clear hd hcl hJ hL hst
    rw [← HWA.out]
    obtain ⟨h0, h1, h2, f0, f1, f2⟩ := hx
    go_simp
  · intro ρ X L hc hf hL hd hcl hJ
    have k19 : ρ (.tmp 19) = .slice (some ⟨g, 0, none⟩) T.rules.length rc2 := hJ.vals 4 19 (.slice (some ⟨g, 0, none⟩) T.rules.length rc2) rfl (hd ⟨4, .data⟩ (by simp) rfl)
    have k20 : ρ (.tmp 20) = .int .i64 b := hJ.vals 5 20 (.int .i64 b) rfl (hd ⟨5, .data⟩ (by simp) rfl)
    refine does_value (v := .pointer (some ⟨g, b * 3, none⟩)) (w' := X) ?_ (hJ.put HOKD.out rfl (by rw [ws3_off (by decide) (by decide) (by decide)]; exact hJ.wd))
    clear hd hcl hJ hL
    go_simp
  · intro ρ X L hc hf hL hd hcl hJ
    have k32 : ρ (.tmp 32) = .pointer (some ⟨g, b * 3, none⟩) := hJ.vals 18 32 (.pointer (some ⟨g, b * 3, none⟩)) rfl (hd ⟨18, .data⟩ (by simp) rfl)
    have k30 : ρ (.tmp 30) = .agg #[.int .i64 xk, .int .i64 xh, .slice xa x.body.length xc] := hJ.vals 15 30 (.agg #[.int .i64 xk, .int .i64 xh, .slice xa x.body.length xc]) rfl (hd ⟨15, .data⟩ (by simp) rfl)
    have hap : L 17 = true := hd ⟨17, .phase⟩ (by simp) rfl
    have hX := hJ.wd.trans (ws3_2 hap hL)
    refine does_skip (w' := wb) ?_ (hJ.last rfl ((ws3_3 more_at).symm))
    have hx := SY.out
    subst hX
    clear hd hcl hJ hL hap
    rw [← HWB.out]
    obtain ⟨z0, z1, z2, h0, h1, h2, f0, f1, f2⟩ := hx
    go_simp
  · intro c a' w' _ hE
    exact hE.elim
  · rintro ⟨tmm, df⟩ w' hsz hdf ⟨L, hL, hJ⟩ hold
    simp only at hdf hsz
    subst hdf
    have hw4 : wb = w' := (hJ.wd.trans (ws3_3 (hL 19 (by decide)))).symm
    subst hw4
    have htm := frame_keep 15 32 (by kernel_rfl) hsz hold
    simp only [zr, Nat.reduceLT, Nat.reduceAdd, true_or, or_true, or_self, if_true, if_false] at htm
    rw [htm]
    clear htm hJ hL hold hsz HOKD LB LX LY SX SY HWA HWB HW0
    generalize tmm.getD 15 undef = x15
    generalize tmm.getD 16 undef = x16
    generalize tmm.getD 17 undef = x17
    generalize tmm.getD 18 undef = x18
    generalize tmm.getD 19 undef = x19
    generalize tmm.getD 20 undef = x20
    generalize tmm.getD 21 undef = x21
    generalize tmm.getD 22 undef = x22
    generalize tmm.getD 23 undef = x23
    generalize tmm.getD 24 undef = x24
    generalize tmm.getD 25 undef = x25
    generalize tmm.getD 26 undef = x26
    generalize tmm.getD 27 undef = x27
    generalize tmm.getD 28 undef = x28
    generalize tmm.getD 29 undef = x29
    generalize tmm.getD 30 undef = x30
    generalize tmm.getD 31 undef = x31
    generalize tmm.getD 32 undef = x32
    go_upto_region 3 with fail
    obtain ⟨gB, capB, curB, hrb, hgbB, hgfB, hncB, hcmB, hclB, hctB⟩ := owns_fx HTW.out.b (by rw [HBL.out]; omega)
    obtain ⟨rfl, rfl⟩ : ba2 = some ⟨gB, 0, none⟩ ∧ bc2 = capB := by cases hrb; exact ⟨rfl, rfl⟩
    obtain ⟨lX, hlX⟩ := get_at (l := T.beats) (i := a) (by rw [HBL.out]; exact ha)
    obtain ⟨lY, hlY⟩ := get_at (l := T.beats) (i := b) (by rw [HBL.out]; exact hb)
    obtain ⟨xv, hx1, hx2⟩ := HTW.out.be a lX hlX
    obtain ⟨yv, hy1, hy2⟩ := HTW.out.be b lY hlY
    obtain ⟨la, lc, rfl⟩ := hx2.form
    obtain ⟨ma, mc, rfl⟩ := hy2.form
    have HLX := hide (And.intro hlX hx2)
    have HLY := hide (And.intro hlY hy2)
    have ex0 := chunk1 hx1
    have ey0 := chunk1 hy1
    have HCB := hide hctB
    obtain ⟨lx, hlx⟩ : ∃ z, lX.length = z := ⟨_, rfl⟩
    obtain ⟨ly, hly⟩ : ∃ z, lY.length = z := ⟨_, rfl⟩
    have HLL := hide (And.intro hlx hly)
    rw [hlx] at ex0
    rw [hly] at ey0
    have hqlt : gB < q := by have := hgfB.lt; omega
    have hgne : gB ≠ g := fx_ne hgfB HGF.out (by decide)
    obtain ⟨w0, HW0⟩ : ∃ w0, Hid (wb.drew = w0) := ⟨_, hide rfl⟩
    obtain ⟨wp, hwp⟩ : ∃ wp, wb = wp := ⟨_, rfl⟩
    have HBL2 := hide HBL.out
    rw [HBL.out] at HQB HTW ⊢
    have hqd : Fx q 25 [.int .i64 T.lits, .slice fa2 T.foes.length fc2, .slice (some ⟨g, 0, none⟩) T.rules.length rc2, .slice (some ⟨gB, 0, none⟩) T.rules.length bc2] w0 := by rw [← HW0.out]; exact HQB.out
    have hgd : Fx gB 26 curB w0 := by rw [← HW0.out]; exact hgfB.keep (HKB.out gB hgne hqlt)
    have hrd := HGB.out.keep (w' := w0) (by rw [← HW0.out]; rfl)
    have hqne : q ≠ gB := by omega
    obtain ⟨wa, HWA⟩ : ∃ wa, Hid (w0.setCell ⟨gB, a, none⟩ (.slice ma ly mc) = wa) := ⟨_, hide rfl⟩
    have hqa := hqd.keep (w' := wa) (by rw [← HWA.out]; exact other_set hqne)
    have hra := hrd.keep (w' := wa) (by rw [← HWA.out]; exact other_set (fun e => hgne e.symm))
    have hga : Fx gB 26 (curB.set a (.slice ma ly mc)) wa := by rw [← HWA.out]; exact hgd.set _ _
    obtain ⟨wc, HWB⟩ : ∃ wc, Hid (wa.setCell ⟨gB, b, none⟩ (.slice la lx lc) = wc) := ⟨_, hide rfl⟩
    have hqb := hqa.keep (w' := wc) (by rw [← HWB.out]; exact other_set hqne)
    have hrb := hra.keep (w' := wc) (by rw [← HWB.out]; exact other_set (fun e => hgne e.symm))
    have hgb2 : Fx gB 26 ((curB.set a (.slice ma ly mc)).set b (.slice la lx lc)) wc := by rw [← HWB.out]; exact hga.set _ _
    have LB : Hid (∀ X, X = w0 ∨ X = w0 ∨ X = wa → X.cell? ⟨q, 3, none⟩ = some (.slice (some ⟨gB, 0, none⟩) T.rules.length bc2)) := hide fun X hX => by
      rcases hX with rfl | rfl | rfl
      · exact hqd.get (i := 3) rfl
      · exact hqd.get (i := 3) rfl
      · exact hqa.get (i := 3) rfl
    have LX : Hid (w0.cell? ⟨gB, a, none⟩ = some (.slice la lx lc)) := hide (hgd.get (of_take hctB ex0))
    have LY : Hid (w0.cell? ⟨gB, b, none⟩ = some (.slice ma ly mc)) := hide (hgd.get (of_take hctB ey0))
    have SX : Hid (w0.cell? ⟨gB, a, none⟩ = some (.slice la lx lc) ∧ w0.frozen? ⟨gB, a, none⟩ = false) := hide ⟨LX.out, hgd.frz _⟩
    have SY : Hid (∃ z0, wa.cell? ⟨gB, b, none⟩ = some z0 ∧ wa.frozen? ⟨gB, b, none⟩ = false) := hide (by
      have e0 := (List.getElem?_eq_some_iff.1 (of_take hctB ey0)).1
      obtain ⟨z0, h0⟩ := get_at (l := curB.set a (.slice ma ly mc)) (i := b) (by simpa using e0)
      exact ⟨z0, hga.get h0, hga.frz _⟩)
    have HKC : Hid (∀ k, k ≠ g → k ≠ gB → k < q → wc.heap[k]? = w1.heap[k]?) := hide fun k hk hk2 hq => by
      rw [← HWB.out, other_set hk2, ← HWA.out, other_set hk2, ← HW0.out]
      exact HKB.out k hk hq
    have HBC : Hid (Below W.heap.size W wc) := hide (by
      have h2 : Below W.heap.size W w0 := by rw [← HW0.out]; exact HBW.out.trans ((show Below wb.heap.size wb wb.drew from ⟨rfl, rfl, rfl, Nat.le_refl _, fun _ _ => rfl⟩).mono HBW.out.size)
      rw [← HWB.out, ← HWA.out]
      exact (h2.setCell (p := ⟨gB, a, none⟩) hgbB _).setCell (p := ⟨gB, b, none⟩) hgbB _)
    have HQC := hide hqb
    have HRC := hide hrb
    have HGC := hide hgb2
    have HEB := hide (And.intro ex0 ey0)
    clear hqd hgd hqa hga hqb hgb2 hrd hra hrb ex0 ey0 hctB hclB hgfB hx1 hx2 hy1 hy2 hlX hlY hlx hly HQB HGB HKB HBW HGF HQ0 HG0 HHA hwp wp
    have HOKD : Hid (okD ([some (33, .pointer (some ⟨q, 3, none⟩)), some (34, .slice (some ⟨gB, 0, none⟩) T.rules.length bc2), some (35, .int .i64 a), some (36, .pointer (some ⟨q, 3, none⟩)), some (37, .slice (some ⟨gB, 0, none⟩) T.rules.length bc2), some (38, .int .i64 b), some (39, .pointer (some ⟨q, 3, none⟩)), some (40, .slice (some ⟨gB, 0, none⟩) T.rules.length bc2), some (41, .int .i64 b), some (42, .pointer (some ⟨gB, b, none⟩)), some (43, .slice ma ly mc), some (44, .pointer (some ⟨q, 3, none⟩)), some (45, .slice (some ⟨gB, 0, none⟩) T.rules.length bc2), some (46, .int .i64 a), some (47, .pointer (some ⟨gB, a, none⟩)), some (48, .slice la lx lc), some (49, .pointer (some ⟨gB, a, none⟩)), none, some (50, .pointer (some ⟨gB, b, none⟩)), none].map fun p : Option (Nat × Value) => p.map Prod.fst) [(7, ptr q), (1, .int .i64 a), (2, .int .i64 b)] = true) := hide rfl
    refine Rg2.region_j NoE (Jt [some (33, .pointer (some ⟨q, 3, none⟩)), some (34, .slice (some ⟨gB, 0, none⟩) T.rules.length bc2), some (35, .int .i64 a), some (36, .pointer (some ⟨q, 3, none⟩)), some (37, .slice (some ⟨gB, 0, none⟩) T.rules.length bc2), some (38, .int .i64 b), some (39, .pointer (some ⟨q, 3, none⟩)), some (40, .slice (some ⟨gB, 0, none⟩) T.rules.length bc2), some (41, .int .i64 b), some (42, .pointer (some ⟨gB, b, none⟩)), some (43, .slice ma ly mc), some (44, .pointer (some ⟨q, 3, none⟩)), some (45, .slice (some ⟨gB, 0, none⟩) T.rules.length bc2), some (46, .int .i64 a), some (47, .pointer (some ⟨gB, a, none⟩)), some (48, .slice la lx lc), some (49, .pointer (some ⟨gB, a, none⟩)), none, some (50, .pointer (some ⟨gB, b, none⟩)), none] [(7, ptr q), (1, .int .i64 a), (2, .int .i64 b)] (ws3 16 17 19 w0 w0 wa wc)) (by kernel_rfl) (by kernel_rfl) ?_ (Rg2.steps_j ⟨?_, ?_, ?_, ?_, ?_, ?_, ?_, ?_, ?_, ?_, ?_, ?_, ?_, ?_, ?_, ?_, ?_, ?_, ?_, ?_, trivial⟩) ?_ ?_
    · exact ⟨fun p hp => by simp at hp; rcases hp with rfl | rfl | rfl <;> rfl, fun i d v _ hL => (by cases hL), HW0.out⟩
    · intro ρ X L hc hf hL hd hcl hJ
      have k7 : ρ (.tmp 7) = ptr q := hJ.base (7, ptr q) (by simp)
      refine does_value (v := .pointer (some ⟨q, 3, none⟩)) (w' := X) ?_ (hJ.put HOKD.out rfl (by rw [ws3_off (by decide) (by decide) (by decide)]; exact hJ.wd))
      clear hd hcl hJ hL
      go_simp
    · intro ρ X L hc hf hL hd hcl hJ
      have k33 : ρ (.tmp 33) = .pointer (some ⟨q, 3, none⟩) := hJ.vals 0 33 (.pointer (some ⟨q, 3, none⟩)) rfl (hd ⟨0, .data⟩ (by simp) rfl)
      have hst : L 19 = false := not_done (by kernel_rfl) hcl (k := 1) (by simp) hL
      have hx := LB.out X (ws3_in hJ.wd hst)
      clear hst
      refine does_value (v := .slice (some ⟨gB, 0, none⟩) T.rules.length bc2) (w' := X) ?_ (hJ.put HOKD.out rfl (by rw [ws3_off (by decide) (by decide) (by decide)]; exact hJ.wd))
      clear hd hcl hJ hL
      go_simp
    · intro ρ X L hc hf hL hd hcl hJ
      have k1 : ρ (.tmp 1) = .int .i64 a := hJ.base (1, .int .i64 a) (by simp)
      refine does_value (v := .int .i64 a) (w' := X) ?_ (hJ.put HOKD.out rfl (by rw [ws3_off (by decide) (by decide) (by decide)]; exact hJ.wd))
      clear hd hcl hJ hL
      go_simp
    · intro ρ X L hc hf hL hd hcl hJ
      have k7 : ρ (.tmp 7) = ptr q := hJ.base (7, ptr q) (by simp)
      refine does_value (v := .pointer (some ⟨q, 3, none⟩)) (w' := X) ?_ (hJ.put HOKD.out rfl (by rw [ws3_off (by decide) (by decide) (by decide)]; exact hJ.wd))
      clear hd hcl hJ hL
      go_simp
    · intro ρ X L hc hf hL hd hcl hJ
      have k36 : ρ (.tmp 36) = .pointer (some ⟨q, 3, none⟩) := hJ.vals 3 36 (.pointer (some ⟨q, 3, none⟩)) rfl (hd ⟨3, .data⟩ (by simp) rfl)
      have hst : L 19 = false := not_done (by kernel_rfl) hcl (k := 4) (by simp) hL
      have hx := LB.out X (ws3_in hJ.wd hst)
      clear hst
      refine does_value (v := .slice (some ⟨gB, 0, none⟩) T.rules.length bc2) (w' := X) ?_ (hJ.put HOKD.out rfl (by rw [ws3_off (by decide) (by decide) (by decide)]; exact hJ.wd))
      clear hd hcl hJ hL
      go_simp
    · intro ρ X L hc hf hL hd hcl hJ
      have k2 : ρ (.tmp 2) = .int .i64 b := hJ.base (2, .int .i64 b) (by simp)
      refine does_value (v := .int .i64 b) (w' := X) ?_ (hJ.put HOKD.out rfl (by rw [ws3_off (by decide) (by decide) (by decide)]; exact hJ.wd))
      clear hd hcl hJ hL
      go_simp
    · intro ρ X L hc hf hL hd hcl hJ
      have k7 : ρ (.tmp 7) = ptr q := hJ.base (7, ptr q) (by simp)
      refine does_value (v := .pointer (some ⟨q, 3, none⟩)) (w' := X) ?_ (hJ.put HOKD.out rfl (by rw [ws3_off (by decide) (by decide) (by decide)]; exact hJ.wd))
      clear hd hcl hJ hL
      go_simp
    · intro ρ X L hc hf hL hd hcl hJ
      have k39 : ρ (.tmp 39) = .pointer (some ⟨q, 3, none⟩) := hJ.vals 6 39 (.pointer (some ⟨q, 3, none⟩)) rfl (hd ⟨6, .data⟩ (by simp) rfl)
      have hst : L 19 = false := not_done (by kernel_rfl) hcl (k := 7) (by simp) hL
      have hx := LB.out X (ws3_in hJ.wd hst)
      clear hst
      refine does_value (v := .slice (some ⟨gB, 0, none⟩) T.rules.length bc2) (w' := X) ?_ (hJ.put HOKD.out rfl (by rw [ws3_off (by decide) (by decide) (by decide)]; exact hJ.wd))
      clear hd hcl hJ hL
      go_simp
    · intro ρ X L hc hf hL hd hcl hJ
      have k2 : ρ (.tmp 2) = .int .i64 b := hJ.base (2, .int .i64 b) (by simp)
      refine does_value (v := .int .i64 b) (w' := X) ?_ (hJ.put HOKD.out rfl (by rw [ws3_off (by decide) (by decide) (by decide)]; exact hJ.wd))
      clear hd hcl hJ hL
      go_simp
    · intro ρ X L hc hf hL hd hcl hJ
      have k40 : ρ (.tmp 40) = .slice (some ⟨gB, 0, none⟩) T.rules.length bc2 := hJ.vals 7 40 (.slice (some ⟨gB, 0, none⟩) T.rules.length bc2) rfl (hd ⟨7, .data⟩ (by simp) rfl)
      have k41 : ρ (.tmp 41) = .int .i64 b := hJ.vals 8 41 (.int .i64 b) rfl (hd ⟨8, .data⟩ (by simp) rfl)
      refine does_value (v := .pointer (some ⟨gB, b, none⟩)) (w' := X) ?_ (hJ.put HOKD.out rfl (by rw [ws3_off (by decide) (by decide) (by decide)]; exact hJ.wd))
      clear hd hcl hJ hL
      go_simp
    · intro ρ X L hc hf hL hd hcl hJ
      have k42 : ρ (.tmp 42) = .pointer (some ⟨gB, b, none⟩) := hJ.vals 9 42 (.pointer (some ⟨gB, b, none⟩)) rfl (hd ⟨9, .data⟩ (by simp) rfl)
      have hst : L 19 = false := not_done (by kernel_rfl) hcl (k := 10) (by simp) hL
      have hap : L 17 = false := by cases e : L 17 with | false => rfl | true => (have := hcl 17 _ rfl e ⟨10, .phase⟩ (by simp) rfl; rw [show (⟨10, .phase⟩ : Edge).on = 10 from rfl] at this; rw [hL] at this; cases this)
      have hX := hJ.wd.trans (ws3_b hap hst)
      have hx := LY.out
      rw [← hX] at hx
      refine does_value (v := .slice ma ly mc) (w' := X) ?_ (hJ.put HOKD.out rfl (by rw [ws3_off (by decide) (by decide) (by decide)]; exact hJ.wd))
      clear hd hcl hJ hL hst hap hX
      skip
      go_simp
    · intro ρ X L hc hf hL hd hcl hJ
      have k7 : ρ (.tmp 7) = ptr q := hJ.base (7, ptr q) (by simp)
      refine does_value (v := .pointer (some ⟨q, 3, none⟩)) (w' := X) ?_ (hJ.put HOKD.out rfl (by rw [ws3_off (by decide) (by decide) (by decide)]; exact hJ.wd))
      clear hd hcl hJ hL
      go_simp
    · intro ρ X L hc hf hL hd hcl hJ
      have k44 : ρ (.tmp 44) = .pointer (some ⟨q, 3, none⟩) := hJ.vals 11 44 (.pointer (some ⟨q, 3, none⟩)) rfl (hd ⟨11, .data⟩ (by simp) rfl)
      have hst : L 19 = false := not_done (by kernel_rfl) hcl (k := 12) (by simp) hL
      have hx := LB.out X (ws3_in hJ.wd hst)
      clear hst
      refine does_value (v := .slice (some ⟨gB, 0, none⟩) T.rules.length bc2) (w' := X) ?_ (hJ.put HOKD.out rfl (by rw [ws3_off (by decide) (by decide) (by decide)]; exact hJ.wd))
      clear hd hcl hJ hL
      go_simp
    · intro ρ X L hc hf hL hd hcl hJ
      have k1 : ρ (.tmp 1) = .int .i64 a := hJ.base (1, .int .i64 a) (by simp)
      refine does_value (v := .int .i64 a) (w' := X) ?_ (hJ.put HOKD.out rfl (by rw [ws3_off (by decide) (by decide) (by decide)]; exact hJ.wd))
      clear hd hcl hJ hL
      go_simp
    · intro ρ X L hc hf hL hd hcl hJ
      have k45 : ρ (.tmp 45) = .slice (some ⟨gB, 0, none⟩) T.rules.length bc2 := hJ.vals 12 45 (.slice (some ⟨gB, 0, none⟩) T.rules.length bc2) rfl (hd ⟨12, .data⟩ (by simp) rfl)
      have k46 : ρ (.tmp 46) = .int .i64 a := hJ.vals 13 46 (.int .i64 a) rfl (hd ⟨13, .data⟩ (by simp) rfl)
      refine does_value (v := .pointer (some ⟨gB, a, none⟩)) (w' := X) ?_ (hJ.put HOKD.out rfl (by rw [ws3_off (by decide) (by decide) (by decide)]; exact hJ.wd))
      clear hd hcl hJ hL
      go_simp
    · intro ρ X L hc hf hL hd hcl hJ
      have k47 : ρ (.tmp 47) = .pointer (some ⟨gB, a, none⟩) := hJ.vals 14 47 (.pointer (some ⟨gB, a, none⟩)) rfl (hd ⟨14, .data⟩ (by simp) rfl)
      have hst : L 19 = false := not_done (by kernel_rfl) hcl (k := 15) (by simp) hL
      have hap : L 17 = false := by cases e : L 17 with | false => rfl | true => (have := hcl 17 _ rfl e ⟨15, .phase⟩ (by simp) rfl; rw [show (⟨15, .phase⟩ : Edge).on = 15 from rfl] at this; rw [hL] at this; cases this)
      have hX := hJ.wd.trans (ws3_b hap hst)
      have hx := LX.out
      rw [← hX] at hx
      refine does_value (v := .slice la lx lc) (w' := X) ?_ (hJ.put HOKD.out rfl (by rw [ws3_off (by decide) (by decide) (by decide)]; exact hJ.wd))
      clear hd hcl hJ hL hst hap hX
      skip
      go_simp
    · intro ρ X L hc hf hL hd hcl hJ
      have k34 : ρ (.tmp 34) = .slice (some ⟨gB, 0, none⟩) T.rules.length bc2 := hJ.vals 1 34 (.slice (some ⟨gB, 0, none⟩) T.rules.length bc2) rfl (hd ⟨1, .data⟩ (by simp) rfl)
      have k35 : ρ (.tmp 35) = .int .i64 a := hJ.vals 2 35 (.int .i64 a) rfl (hd ⟨2, .data⟩ (by simp) rfl)
      refine does_value (v := .pointer (some ⟨gB, a, none⟩)) (w' := X) ?_ (hJ.put HOKD.out rfl (hJ.wd.trans (ws3_same (by decide) (by decide)).symm))
      clear hd hcl hJ hL
      go_simp
    · intro ρ X L hc hf hL hd hcl hJ
      have k49 : ρ (.tmp 49) = .pointer (some ⟨gB, a, none⟩) := hJ.vals 16 49 (.pointer (some ⟨gB, a, none⟩)) rfl (hd ⟨16, .data⟩ (by simp) rfl)
      have k43 : ρ (.tmp 43) = .slice ma ly mc := hJ.vals 10 43 (.slice ma ly mc) rfl (hd ⟨10, .data⟩ (by simp) rfl)
      have hst : L 19 = false := not_done (by kernel_rfl) hcl (k := 17) (by simp) hL
      have hX := hJ.wd.trans (ws3_b hL hst)
      refine does_skip (w' := wa) ?_ (hJ.last rfl ((ws3_2 more_at (by rw [more_off (by decide)]; exact hst)).symm))
      have hx := SX.out
      subst hX
      clear hd hcl hJ hL hst
      rw [← HWA.out]
      obtain ⟨h0, f0⟩ := hx
      go_simp
    · intro ρ X L hc hf hL hd hcl hJ
      have k37 : ρ (.tmp 37) = .slice (some ⟨gB, 0, none⟩) T.rules.length bc2 := hJ.vals 4 37 (.slice (some ⟨gB, 0, none⟩) T.rules.length bc2) rfl (hd ⟨4, .data⟩ (by simp) rfl)
      have k38 : ρ (.tmp 38) = .int .i64 b := hJ.vals 5 38 (.int .i64 b) rfl (hd ⟨5, .data⟩ (by simp) rfl)
      refine does_value (v := .pointer (some ⟨gB, b, none⟩)) (w' := X) ?_ (hJ.put HOKD.out rfl (by rw [ws3_off (by decide) (by decide) (by decide)]; exact hJ.wd))
      clear hd hcl hJ hL
      go_simp
    · intro ρ X L hc hf hL hd hcl hJ
      have k50 : ρ (.tmp 50) = .pointer (some ⟨gB, b, none⟩) := hJ.vals 18 50 (.pointer (some ⟨gB, b, none⟩)) rfl (hd ⟨18, .data⟩ (by simp) rfl)
      have k48 : ρ (.tmp 48) = .slice la lx lc := hJ.vals 15 48 (.slice la lx lc) rfl (hd ⟨15, .data⟩ (by simp) rfl)
      have hap : L 17 = true := hd ⟨17, .phase⟩ (by simp) rfl
      have hX := hJ.wd.trans (ws3_2 hap hL)
      refine does_skip (w' := wc) ?_ (hJ.last rfl ((ws3_3 more_at).symm))
      have hx := SY.out
      subst hX
      clear hd hcl hJ hL hap
      rw [← HWB.out]
      obtain ⟨z0, h0, f0⟩ := hx
      go_simp
    · intro c a' w' _ hE
      exact hE.elim
    · rintro ⟨tmm, df⟩ w' hsz hdf ⟨L, hL, hJ⟩ hold
      simp only at hdf hsz
      subst hdf
      have hw4 : wc = w' := (hJ.wd.trans (ws3_3 (hL 19 (by decide)))).symm
      subst hw4
      have htm := frame_keep 33 50 (by kernel_rfl) hsz hold
      simp only [zr, Nat.reduceLT, Nat.reduceAdd, true_or, or_true, or_self, if_true, if_false] at htm
      rw [htm]
      clear htm hJ hL hold hsz HOKD LB LX LY SX SY HWA HWB HW0
      generalize tmm.getD 33 undef = x33
      generalize tmm.getD 34 undef = x34
      generalize tmm.getD 35 undef = x35
      generalize tmm.getD 36 undef = x36
      generalize tmm.getD 37 undef = x37
      generalize tmm.getD 38 undef = x38
      generalize tmm.getD 39 undef = x39
      generalize tmm.getD 40 undef = x40
      generalize tmm.getD 41 undef = x41
      generalize tmm.getD 42 undef = x42
      generalize tmm.getD 43 undef = x43
      generalize tmm.getD 44 undef = x44
      generalize tmm.getD 45 undef = x45
      generalize tmm.getD 46 undef = x46
      generalize tmm.getD 47 undef = x47
      generalize tmm.getD 48 undef = x48
      generalize tmm.getD 49 undef = x49
      generalize tmm.getD 50 undef = x50
      go_upto_region 5 with fail
      obtain ⟨iB, hiB, zB0, zB1, zB2⟩ := info_parts infoBo
      obtain ⟨iI, hiI, zI0, zI1, zI2⟩ := info_parts infoI
      have HLB : Hid (W.heap.size ≤ wc.heap.size) := hide HBC.out.size
      have HZ : Hid (∀ k, Z k → k ≠ g ∧ k ≠ gB ∧ k < q) := hide fun k hk => by
        obtain ⟨z1, z2, z3, z4⟩ := HTW.out.z k hk
        exact ⟨fun e => z3 (by rw [e]; rfl), fun e => z4 (by rw [e]; rfl), by omega⟩
      have HRW := hide fun (i : Nat) (hi : i < T.rules.length) => rows_swapped (curB := curB) HBL2.out ha hb HCB.out (by have h9 := HBL2.out; have := HTW.out.b.1; omega) (by have h9 := HBL2.out; have h1 := congrArg List.length HCB.out; rw [List.length_take] at h1; have h2 := HTW.out.b.1; omega) HTW.out.be HLX.out HLY.out (fun k hk => ⟨hk, HKC.out k (HZ.out k hk).1 (HZ.out k hk).2.1 (HZ.out k hk).2.2⟩) hi
      rw [HLL.out.1, HLL.out.2] at HRW
      obtain ⟨p, hpp⟩ : ∃ p : Nat → Int → Bool, (fun (j : Nat) z => decide (sw a b z ∈ row T.beats (sw a b j))) = p := ⟨_, rfl⟩
      have HPP := hide hpp
      obtain ⟨curS, hcs⟩ : ∃ curS, (curB.set a (.slice ma ly mc)).set b (.slice la lx lc) = curS := ⟨_, rfl⟩
      have HCS : Hid (T.rules.length ≤ curS.length) := hide (by
        rw [← hcs, List.length_set, List.length_set]
        have h9 := HBL2.out
        have h1 := congrArg List.length HCB.out
        rw [List.length_take] at h1
        have h2 := HTW.out.b.1
        omega)
      rw [hcs] at HRW HGC
      obtain ⟨bx, hbx⟩ : ∃ bx : List Value, [.int .i64 T.lits, .slice fa2 T.foes.length fc2, .slice (some ⟨g, 0, none⟩) T.rules.length rc2, .slice (some ⟨gB, 0, none⟩) T.rules.length bc2] = bx := ⟨_, rfl⟩
      have HB2 : Hid (bx[2]? = some (.slice (some ⟨g, 0, none⟩) T.rules.length rc2)) := hide (by rw [← hbx]; rfl)
      have HB3 : Hid (bx[3]? = some (.slice (some ⟨gB, 0, none⟩) T.rules.length bc2)) := hide (by rw [← hbx]; rfl)
      have HBX := hide hbx
      rw [hbx] at HQC
      have HLO : Hid (Lo T.rules.length 0 p q gB wc.heap.size bx curS curS wc wc) := hide ⟨HQC.out, HGC.out, HGC.out.lt, HQC.out.lt, rfl, fun j hj => by omega, fun _ _ => rfl, fun _ _ _ => rfl, Nat.le_refl _⟩
      have HOKB : Hid (∀ (i : Nat) z, i < T.rules.length → z ∈ row T.beats (sw a b i) → 0 ≤ z ∧ z < (T.rules.length : Int)) := hide fun i z hi hz => by
        rw [sw_nat] at hz
        obtain ⟨l, hl⟩ := get_at (l := T.beats) (i := sN a b i) (by rw [HBL2.out]; exact sN_lt ha hb hi)
        rw [row_at (by rw [Int.toNat_natCast]; exact hl)] at hz
        have := ((rises_iff.1 (HOK.out.beat _ l hl).1).1 z hz)
        omega
      clear hpp hcs hbx
      go_loopw [8] (fun x wr => ∃ (i : Nat) (vs : List Value), i ≤ T.rules.length ∧ x = .int .i64 i ∧ Hid (Lo T.rules.length i p q gB wc.heap.size bx curS vs wc wr) ∧ Hid (Below W.heap.size W wr)) (fun x _ => T.rules.length - (intOf x).toNat)
      case atStart => exact ⟨0, curS, by omega, rfl, HLO, HBC⟩
      case round =>
        clear HLO HBC
        obtain ⟨i, vs, hi, rfl, HL, HBr⟩ := hrel
        have c2 := HL.out.bx.get HB2.out
        have c3 := HL.out.bx.get HB3.out
        by_cases hlt : i < T.rules.length
        · have hm1 := fun W => run_make_fix (P := Try.prog) Try.underlying50 hiB zB0 zB1 rfl T.rules.length (by rw [zB2]; omega) (by unfold maxLen; omega) W
          go_upto_region 9 with fail
          clear c2 c3 hm1
          obtain ⟨va, vc, hcv, hrz⟩ := HRW.out i hlt
          have HVI : Hid (vs[i]? = some (.slice va (row T.beats (sw a b i)).length vc)) := hide ((HL.out.rest i (Nat.le_refl _)).trans hcv)
          have HRZ := hide hrz
          have HIN := hide fun z hz => HOKB.out i z hlt hz
          have HPI : Hid (∀ z, p i z = decide (sw a b z ∈ row T.beats (sw a b i))) := hide fun z => by rw [← HPP.out]
          generalize row T.beats (sw a b i) = l at *
          have hll : l.length ≤ 140737488351232 := by obtain ⟨_, _, _, _, h9, _⟩ := HRZ.out; exact h9
          have hA5 := below_new wr (.cells (Array.replicate T.rules.length (.bool false)) 4)
          have HF5 : Hid (Fx wr.heap.size 4 (rowB T.rules.length (fun z => decide (z ∈ (l.take 0).map (sw a b)))) (wr.alloc (.cells (Array.replicate T.rules.length (.bool false)) 4))) := hide (by
            have e1 : rowB T.rules.length (fun z => decide (z ∈ (l.take 0).map (sw a b))) = rowB T.rules.length fun _ => false := by unfold rowB; refine List.map_congr_left fun q _ => ?_; simp
            have e := heap_alloc_new wr (.cells (Array.replicate T.rules.length (.bool false)) 4)
            unfold Fx
            rw [e1, ← rep_rowB2]
            exact e)
          have HL5 := hide hA5
          clear hA5 hcv hrz
          obtain ⟨wi, hwi⟩ : ∃ wi, wr = wi := ⟨_, rfl⟩
          rw [hwi] at HF5 HL5 HL HBr ⊢
          clear hwi
          generalize hib : wi.heap.size = ib at *
          go_loopw [10] (fun x wv => ∃ k : Nat, k ≤ l.length ∧ x = .int .i64 k ∧ Hid (Fx ib 4 (rowB T.rules.length (fun z => decide (z ∈ (l.take k).map (sw a b)))) wv) ∧ Hid (Below wi.heap.size wi wv)) (fun x _ => l.length - (intOf x).toNat)
          case atStart => exact ⟨0, by omega, rfl, HF5, by rw [hib]; exact HL5⟩
          case round =>
            clear HF5 HL5
            obtain ⟨k, hk, rfl, HFZ, HBZ⟩ := hrel
            have HLv := hide (HL.out.go HBZ.out)
            have c3 := HLv.out.bx.get HB3.out
            have cv := HLv.out.fx.get HVI.out
            by_cases hlk : k < l.length
            · obtain ⟨z, hz⟩ := get_at hlk
              obtain ⟨z0, z1⟩ := HIN.out z (List.mem_of_getElem? hz)
              obtain ⟨xm, rfl⟩ := Int.eq_ofNat_of_zero_le z0
              have hxn : xm < T.rules.length := by omega
              have hsn := sN_lt ha hb hxn
              obtain ⟨g2, o2, rfl, hZ2, cz0⟩ := rz_at HRZ.out hz
              have cz : wr.cell? ⟨g2, o2 + k, none⟩ = some (.int .i64 (xm : Int)) := (World.cell?_of_block (HLv.out.old g2 (by have := (HZ.out g2 hZ2).2.2; have := HLv.out.ql; omega) (HZ.out g2 hZ2).2.1)).trans cz0
              have q1 := HFZ.out.get (rowB_at hsn)
              have q2 := HFZ.out.frz (sN a b xm)
              have HF2 : Hid (Fx ib 4 (rowB T.rules.length (fun z => decide (z ∈ (l.take (k + 1)).map (sw a b)))) (wr.setCell ⟨ib, sN a b xm, none⟩ (.bool true))) := hide (by
                have := HFZ.out.set (sN a b xm) (.bool true)
                rw [rowB_set hsn] at this
                rw [show (fun z => decide (z ∈ (l.take (k + 1)).map (sw a b))) = upd (fun z => decide (z ∈ (l.take k).map (sw a b))) ((sN a b xm : Nat) : Int) true from funext fun z => by
                  by_cases e : z = ((sN a b xm : Nat) : Int)
                  · subst e; rw [upd_at]; exact decide_eq_true ((take_sw hz).2 (.inr sw_nat.symm))
                  · rw [upd_off e]; exact decide_eq_decide.2 (by rw [take_sw hz, sw_nat]; simp [e])]
                exact this)
              have HB2 := hide (HBZ.out.setCell (p := ⟨ib, sN a b xm, none⟩) (by rw [hib]; exact Nat.le_refl _) (.bool true))
              clear hz z0 z1 HFZ HBZ HLv hZ2 cz0
              by_cases h1 : xm = a
              · have e : sN a b xm = b := by unfold sN; rw [if_pos h1]
                rw [e] at q1 q2 HF2 HB2
                subst h1
                go_wp2_with fail
                go_roundw
                case rel => exact ⟨k + 1, by omega, by go_num, HF2, HB2⟩
                case measure => simp [intOf]; omega
              · have h1' : ¬ (xm : Int) = (a : Int) := by omega
                by_cases h2 : xm = b
                · have e : sN a b xm = a := by unfold sN; rw [if_neg h1, if_pos h2]
                  rw [e] at q1 q2 HF2 HB2
                  subst h2
                  go_wp2_with fail
                  go_roundw
                  case rel => exact ⟨k + 1, by omega, by go_num, HF2, HB2⟩
                  case measure => simp [intOf]; omega
                · have h2' : ¬ (xm : Int) = (b : Int) := by omega
                  have e : sN a b xm = xm := by unfold sN; rw [if_neg h1, if_neg h2]
                  rw [e] at q1 q2 HF2 HB2
                  go_wp2_with fail
                  go_roundw
                  case rel => exact ⟨k + 1, by omega, by go_num, HF2, HB2⟩
                  case measure => simp [intOf]; omega
            · have hkn : k = l.length := by omega
              rw [hkn, List.take_length] at HFZ
              have c5 := HLv.out.fx.frz i
              go_upto_region 20 with fail
              have HQ0 : Hid (Lq T.rules.length i 0 p q gB wc.heap.size ib bx curS (vs.set i (.slice none 0 0)) wc (wr.setCell ⟨gB, i, none⟩ (.slice none 0 0))) := hide (HL.out.begin (by have := HCS.out; omega) hib.symm (fun k hk => HBZ.out.block k hk) (by
                have e : (fun z => decide (z ∈ l.map (sw a b))) = p i := funext fun z => by
                  rw [HPI.out]
                  refine decide_eq_decide.2 ⟨fun hm => ?_, fun hm => List.mem_map.2 ⟨_, hm, sw_sw⟩⟩
                  obtain ⟨y2, hy2, rfl⟩ := List.mem_map.1 hm
                  rw [sw_sw]; exact hy2
                rw [← e]
                exact HFZ.out))
              have HBQ := hide ((HBr.out.trans (HBZ.out.mono HBr.out.size)).setCell (p := ⟨gB, i, none⟩) hgbB (.slice none 0 0))
              clear c3 cv c5 HFZ HBZ HLv hkn hlk hk
              generalize wr.setCell ⟨gB, i, none⟩ (.slice none 0 0) = wj at *
              go_loopw [12] (fun x wv => ∃ (k : Nat) (vs : List Value), k ≤ T.rules.length ∧ x = .int .i64 k ∧ Hid (Lq T.rules.length i k p q gB wc.heap.size ib bx curS vs wc wv) ∧ Hid (Below W.heap.size W wv)) (fun x _ => T.rules.length - (intOf x).toNat)
              case atStart => exact ⟨0, _, by omega, rfl, HQ0, HBQ⟩
              case round =>
                clear HQ0 HBQ
                obtain ⟨k, vs, hk, rfl, HLQ, HBq⟩ := hrel
                by_cases hlk : k < T.rules.length
                · have cb := HLQ.out.mrk.get (rowB_at hlk)
                  cases hb1 : p i k with
                  | false =>
                    rw [hb1] at cb
                    have HL2 := hide (HLQ.out.skip hb1)
                    clear HLQ
                    go_wp2_with fail
                    go_roundw
                    case rel => exact ⟨k + 1, _, by omega, by go_num, HL2, HBq⟩
                    case measure => simp [intOf]; omega
                  | true =>
                    rw [hb1] at cb
                    go_upto_region 23 with fail
                    clear cb
                    obtain ⟨wd, HWD⟩ : ∃ wd, Hid (wr.drew = wd) := ⟨_, hide rfl⟩
                    have hdr : Below wr.heap.size wr wd := by rw [← HWD.out]; exact ⟨rfl, rfl, rfl, Nat.le_refl _, fun _ _ => rfl⟩
                    have HLD := hide (HLQ.out.keep hdr)
                    have HBd := hide (HBq.out.trans (hdr.mono HBq.out.size))
                    obtain ⟨la2, lc2, hv2, om2⟩ := HLD.out.now
                    have hln := soL_len (p := p i) (k := k)
                    have HADD := hide fun (w' : World) (g4 cap4 : Nat) hnew hold => HLD.out.add (w' := w') hb1 hv2 (g4 := g4) (cap4 := cap4) hnew hold
                    obtain ⟨l2, hl2⟩ : ∃ l2, soL (p i) k = l2 := ⟨_, rfl⟩
                    rw [hl2] at hv2 om2 hln HADD
                    obtain ⟨ln2, hn2⟩ : ∃ n, l2.length = n := ⟨_, rfl⟩
                    rw [hn2] at hv2 om2 hln HADD
                    have hA2 := below_new wd (.cells #[.int .i64 k] 3)
                    obtain ⟨gg2, cap2, w2, hr2, hown2, hgrow2, hat2, hlt2⟩ := run_append_lies (P := Try.prog) (wd.alloc (.cells #[.int .i64 k] 3)) 26 26 (ib + 1) 3 iI _ 1 8 Try.underlying26 hiI zI0 zI1 zI2 rfl (by decide) (.slice la2 ln2 lc2) ln2 (ints l2) (owns_keep om2 fun g hg => hA2.block g (owns_lt om2 hg)) ⟨wd.heap.size, 0, none⟩ 1 1 [.int .i64 k] rfl (World.news_of_block (cs := [.int .i64 k].toArray) (t := 3) (fr := (0, 0)) (heap_alloc_new wd (.cells #[.int .i64 k] 3))) (by simp [Value.oneCell']) (by decide) (by unfold maxLen; omega) (by have := HLD.out.mrk.lt; simp; omega) (by have := HLD.out.mrk.lt; simp; omega) (wd.heap.size + 1) (by simp)
                    have HR2 := hide hr2
                    have hold2 : ∀ k, k < wd.heap.size → Value.ownBlock (.slice la2 ln2 lc2) ≠ some k → w2.heap[k]? = wd.heap[k]? := fun k hk hn => (hgrow2.block k (by simp; omega) fun e => hn e.symm).trans (hA2.block k hk)
                    have hlow : ∀ k, k ≤ ib → Value.ownBlock (.slice la2 ln2 lc2) ≠ some k := fun k hk e => by have := (om2.lt k e).1; omega
                    have hsi := HLD.out.si
                    have hgl := HLD.out.lt
                    have hql := HLD.out.ql
                    obtain ⟨w3, HW3⟩ : ∃ w3, Hid (w2.setCell ⟨gB, i, none⟩ (.slice (some ⟨gg2, 0, none⟩) (ln2 + 1) cap2) = w3) := ⟨_, hide rfl⟩
                    have HLQ2 := hide (HADD.out w2 gg2 cap2 hown2 hold2)
                    rw [HW3.out] at HLQ2
                    have HB3b : Hid (Below W.heap.size W w3) := hide (by rw [← HW3.out]; exact (HBd.out.trans (show Below W.heap.size wd w2 from (hA2.mono HBd.out.size).trans ⟨hgrow2.os, hgrow2.tape, hgrow2.output, hgrow2.size, fun k hk => hgrow2.block k (by have := HBd.out.size; simp; omega) fun e => by have := (om2.lt k e.symm).1; have := HLB.out; omega⟩)).setCell (p := ⟨gB, i, none⟩) hgbB (.slice (some ⟨gg2, 0, none⟩) (ln2 + 1) cap2))
                    have kb2 : ∀ {a : Addr} {v : Value}, wd.cell? a = some v → Value.ownBlock (.slice la2 ln2 lc2) ≠ some a.block → ∀ X, X = wd ∨ X = wd.alloc (.cells #[.int .i64 k] 3) ∨ X = w2 → X.cell? a = some v := fun ha hn X hX => by
                      have hlt := World.block_lt_of_cell? wd _ ha
                      rcases hX with rfl | rfl | rfl
                      · exact ha
                      · exact cell_on ha hA2
                      · exact (World.cell?_of_block (hold2 _ hlt hn)).trans ha
                    have LH := hide (kb2 (HLD.out.bx.get HB3.out) (hlow q (by omega)))
                    have LR := hide (kb2 (HLD.out.fx.get hv2) (hlow gB (by omega)))
                    have q1 : w2.cell? ⟨gB, i, none⟩ = some (.slice la2 ln2 lc2) := LR.out w2 (.inr (.inr rfl))
                    have q2 : w2.frozen? ⟨gB, i, none⟩ = false := (HLD.out.fx.keep (hold2 _ HLD.out.fx.lt (hlow gB (by omega)))).frz i
                    clear HLQ HBq HLD HBd hgrow2 hown2 hr2 hv2 hat2 hlt2 kb2 hold2 hA2 om2 hdr hlow hsi hgl hql HADD hl2 hn2 hb1
                    have HOKD : Hid (okD ([some (106, .pointer (some ⟨q, 3, none⟩)), some (107, .slice (some ⟨gB, 0, none⟩) T.rules.length bc2), some (108, .int .i64 i), some (109, .pointer (some ⟨q, 3, none⟩)), some (110, .slice (some ⟨gB, 0, none⟩) T.rules.length bc2), some (111, .int .i64 i), some (112, .pointer (some ⟨gB, i, none⟩)), some (113, .slice la2 ln2 lc2), some (114, .int .i64 k), some (115, .slice (some ⟨wd.heap.size, 0, none⟩) 1 1), some (116, .slice (some ⟨gg2, 0, none⟩) (ln2 + 1) cap2), some (117, .pointer (some ⟨gB, i, none⟩)), none].map fun p : Option (Nat × Value) => p.map Prod.fst) [(7, ptr q), (8, .int .i64 i), (12, .int .i64 k)] = true) := hide rfl
                    refine region_j NoE (Jt [some (106, .pointer (some ⟨q, 3, none⟩)), some (107, .slice (some ⟨gB, 0, none⟩) T.rules.length bc2), some (108, .int .i64 i), some (109, .pointer (some ⟨q, 3, none⟩)), some (110, .slice (some ⟨gB, 0, none⟩) T.rules.length bc2), some (111, .int .i64 i), some (112, .pointer (some ⟨gB, i, none⟩)), some (113, .slice la2 ln2 lc2), some (114, .int .i64 k), some (115, .slice (some ⟨wd.heap.size, 0, none⟩) 1 1), some (116, .slice (some ⟨gg2, 0, none⟩) (ln2 + 1) cap2), some (117, .pointer (some ⟨gB, i, none⟩)), none] [(7, ptr q), (8, .int .i64 i), (12, .int .i64 k)] (ws3 9 10 12 wd (wd.alloc (.cells #[.int .i64 k] 3)) w2 w3)) (by kernel_rfl) (by kernel_rfl) ?_ (steps_j ⟨?_, ?_, ?_, ?_, ?_, ?_, ?_, ?_, ?_, ?_, ?_, ?_, ?_, trivial⟩) ?_ ?_
                    · exact ⟨fun p hp => by simp at hp; rcases hp with rfl | rfl | rfl <;> rfl, fun i d v _ hL => (by cases hL), HWD.out⟩
                    · intro ρ X L hc hf hL hd hcl hJ
                      have k7 : ρ (.tmp 7) = ptr q := hJ.base (7, ptr q) (by simp)
                      refine does_value (v := .pointer (some ⟨q, 3, none⟩)) (w' := X) ?_ (hJ.put HOKD.out rfl (by rw [ws3_off (by decide) (by decide) (by decide)]; exact hJ.wd))
                      clear hd hcl hJ hL
                      go_simp
                    · intro ρ X L hc hf hL hd hcl hJ
                      have k106 : ρ (.tmp 106) = .pointer (some ⟨q, 3, none⟩) := hJ.vals 0 106 (.pointer (some ⟨q, 3, none⟩)) rfl (hd ⟨0, .data⟩ (by simp) rfl)
                      have hst : L 12 = false := not_done (by kernel_rfl) hcl (k := 1) (by simp) hL
                      have hx := LH.out X (ws3_in hJ.wd hst)
                      clear hst
                      refine does_value (v := .slice (some ⟨gB, 0, none⟩) T.rules.length bc2) (w' := X) ?_ (hJ.put HOKD.out rfl (by rw [ws3_off (by decide) (by decide) (by decide)]; exact hJ.wd))
                      clear hd hcl hJ hL
                      go_simp
                    · intro ρ X L hc hf hL hd hcl hJ
                      have k8 : ρ (.tmp 8) = .int .i64 i := hJ.base (8, .int .i64 i) (by simp)
                      refine does_value (v := .int .i64 i) (w' := X) ?_ (hJ.put HOKD.out rfl (by rw [ws3_off (by decide) (by decide) (by decide)]; exact hJ.wd))
                      clear hd hcl hJ hL
                      go_simp
                    · intro ρ X L hc hf hL hd hcl hJ
                      have k7 : ρ (.tmp 7) = ptr q := hJ.base (7, ptr q) (by simp)
                      refine does_value (v := .pointer (some ⟨q, 3, none⟩)) (w' := X) ?_ (hJ.put HOKD.out rfl (by rw [ws3_off (by decide) (by decide) (by decide)]; exact hJ.wd))
                      clear hd hcl hJ hL
                      go_simp
                    · intro ρ X L hc hf hL hd hcl hJ
                      have k109 : ρ (.tmp 109) = .pointer (some ⟨q, 3, none⟩) := hJ.vals 3 109 (.pointer (some ⟨q, 3, none⟩)) rfl (hd ⟨3, .data⟩ (by simp) rfl)
                      have hst : L 12 = false := not_done (by kernel_rfl) hcl (k := 4) (by simp) hL
                      have hx := LH.out X (ws3_in hJ.wd hst)
                      clear hst
                      refine does_value (v := .slice (some ⟨gB, 0, none⟩) T.rules.length bc2) (w' := X) ?_ (hJ.put HOKD.out rfl (by rw [ws3_off (by decide) (by decide) (by decide)]; exact hJ.wd))
                      clear hd hcl hJ hL
                      go_simp
                    · intro ρ X L hc hf hL hd hcl hJ
                      have k8 : ρ (.tmp 8) = .int .i64 i := hJ.base (8, .int .i64 i) (by simp)
                      refine does_value (v := .int .i64 i) (w' := X) ?_ (hJ.put HOKD.out rfl (by rw [ws3_off (by decide) (by decide) (by decide)]; exact hJ.wd))
                      clear hd hcl hJ hL
                      go_simp
                    · intro ρ X L hc hf hL hd hcl hJ
                      have k110 : ρ (.tmp 110) = .slice (some ⟨gB, 0, none⟩) T.rules.length bc2 := hJ.vals 4 110 (.slice (some ⟨gB, 0, none⟩) T.rules.length bc2) rfl (hd ⟨4, .data⟩ (by simp) rfl)
                      have k111 : ρ (.tmp 111) = .int .i64 i := hJ.vals 5 111 (.int .i64 i) rfl (hd ⟨5, .data⟩ (by simp) rfl)
                      refine does_value (v := .pointer (some ⟨gB, i, none⟩)) (w' := X) ?_ (hJ.put HOKD.out rfl (by rw [ws3_off (by decide) (by decide) (by decide)]; exact hJ.wd))
                      clear hd hcl hJ hL
                      go_simp
                    · intro ρ X L hc hf hL hd hcl hJ
                      have k112 : ρ (.tmp 112) = .pointer (some ⟨gB, i, none⟩) := hJ.vals 6 112 (.pointer (some ⟨gB, i, none⟩)) rfl (hd ⟨6, .data⟩ (by simp) rfl)
                      have hst : L 12 = false := not_done (by kernel_rfl) hcl (k := 7) (by simp) hL
                      have hx := LR.out X (ws3_in hJ.wd hst)
                      clear hst
                      refine does_value (v := .slice la2 ln2 lc2) (w' := X) ?_ (hJ.put HOKD.out rfl (by rw [ws3_off (by decide) (by decide) (by decide)]; exact hJ.wd))
                      clear hd hcl hJ hL
                      go_simp
                    · intro ρ X L hc hf hL hd hcl hJ
                      have k12 : ρ (.tmp 12) = .int .i64 k := hJ.base (12, .int .i64 k) (by simp)
                      refine does_value (v := .int .i64 k) (w' := X) ?_ (hJ.put HOKD.out rfl (by rw [ws3_off (by decide) (by decide) (by decide)]; exact hJ.wd))
                      clear hd hcl hJ hL
                      go_simp
                    · intro ρ X L hc hf hL hd hcl hJ
                      have k114 : ρ (.tmp 114) = .int .i64 k := hJ.vals 8 114 (.int .i64 k) rfl (hd ⟨8, .data⟩ (by simp) rfl)
                      have hap : L 10 = false := by cases e : L 10 with | false => rfl | true => (have := hcl 10 _ rfl e ⟨9, .data⟩ (by simp) rfl; rw [show (⟨9, .data⟩ : Edge).on = 9 from rfl] at this; rw [hL] at this; cases this)
                      have hst : L 12 = false := not_done (by kernel_rfl) hcl (k := 9) (by simp) hL
                      have hX := hJ.wd.trans (ws3_0 hL hap hst)
                      refine does_value (v := .slice (some ⟨wd.heap.size, 0, none⟩) 1 1) (w' := wd.alloc (.cells #[.int .i64 k] 3)) ?_ (hJ.put HOKD.out rfl ((ws3_1 more_at (by rw [more_off (by decide)]; exact hap) (by rw [more_off (by decide)]; exact hst)).symm))
                      subst hX
                      clear hd hcl hJ hL hap hst
                      go_simp
                    · intro ρ X L hc hf hL hd hcl hJ
                      have k113 : ρ (.tmp 113) = .slice la2 ln2 lc2 := hJ.vals 7 113 (.slice la2 ln2 lc2) rfl (hd ⟨7, .data⟩ (by simp) rfl)
                      have k115 : ρ (.tmp 115) = .slice (some ⟨wd.heap.size, 0, none⟩) 1 1 := hJ.vals 9 115 (.slice (some ⟨wd.heap.size, 0, none⟩) 1 1) rfl (hd ⟨9, .data⟩ (by simp) rfl)
                      have hbs : L 9 = true := hd ⟨9, .data⟩ (by simp) rfl
                      have hst : L 12 = false := not_done (by kernel_rfl) hcl (k := 10) (by simp) hL
                      have hX := hJ.wd.trans (ws3_1 hbs hL hst)
                      refine does_app _ _ 26 rfl k113 k115 (u := .slice (some ⟨gg2, 0, none⟩) (ln2 + 1) cap2) (w' := w2) (by rw [hX]; exact HR2.out) (hJ.put HOKD.out rfl ((ws3_2 more_at (by rw [more_off (by decide)]; exact hst)).symm))
                    · intro ρ X L hc hf hL hd hcl hJ
                      have k107 : ρ (.tmp 107) = .slice (some ⟨gB, 0, none⟩) T.rules.length bc2 := hJ.vals 1 107 (.slice (some ⟨gB, 0, none⟩) T.rules.length bc2) rfl (hd ⟨1, .data⟩ (by simp) rfl)
                      have k108 : ρ (.tmp 108) = .int .i64 i := hJ.vals 2 108 (.int .i64 i) rfl (hd ⟨2, .data⟩ (by simp) rfl)
                      refine does_value (v := .pointer (some ⟨gB, i, none⟩)) (w' := X) ?_ (hJ.put HOKD.out rfl (by rw [ws3_off (by decide) (by decide) (by decide)]; exact hJ.wd))
                      clear hd hcl hJ hL
                      go_simp
                    · intro ρ X L hc hf hL hd hcl hJ
                      have k117 : ρ (.tmp 117) = .pointer (some ⟨gB, i, none⟩) := hJ.vals 11 117 (.pointer (some ⟨gB, i, none⟩)) rfl (hd ⟨11, .data⟩ (by simp) rfl)
                      have k116 : ρ (.tmp 116) = .slice (some ⟨gg2, 0, none⟩) (ln2 + 1) cap2 := hJ.vals 10 116 (.slice (some ⟨gg2, 0, none⟩) (ln2 + 1) cap2) rfl (hd ⟨10, .data⟩ (by simp) rfl)
                      have hap : L 10 = true := hd ⟨10, .data⟩ (by simp) rfl
                      have hX := hJ.wd.trans (ws3_2 hap hL)
                      refine does_skip (w' := w3) ?_ (hJ.last rfl ((ws3_3 more_at).symm))
                      subst hX
                      clear hd hcl hJ hL hap
                      rw [← HW3.out]
                      go_simp
                    · intro c a' w' _ hE
                      exact hE.elim
                    · rintro ⟨tmm, df⟩ w' hsz hdf ⟨L, hL, hJ⟩ hold
                      simp only at hdf hsz
                      subst hdf
                      have hw4 : w3 = w' := (hJ.wd.trans (ws3_3 (hL 12 (by decide)))).symm
                      subst hw4
                      have htm := frame_keep 106 117 (by kernel_rfl) hsz hold
                      simp only [zr, Nat.reduceLT, Nat.reduceAdd, true_or, or_true, or_self, if_true, if_false] at htm
                      rw [htm]
                      clear htm hJ hL hold hsz HOKD HR2 HW3 LH LR q1 q2 HWD
                      generalize tmm.getD 106 undef = x106
                      generalize tmm.getD 107 undef = x107
                      generalize tmm.getD 108 undef = x108
                      generalize tmm.getD 109 undef = x109
                      generalize tmm.getD 110 undef = x110
                      generalize tmm.getD 111 undef = x111
                      generalize tmm.getD 112 undef = x112
                      generalize tmm.getD 113 undef = x113
                      generalize tmm.getD 114 undef = x114
                      generalize tmm.getD 115 undef = x115
                      generalize tmm.getD 116 undef = x116
                      generalize tmm.getD 117 undef = x117
                      go_wp2_with fail
                      go_roundw
                      case rel => exact ⟨k + 1, _, by omega, by go_num, HLQ2, HB3b⟩
                      case measure => simp [intOf]; omega
                · have hkn : k = T.rules.length := by omega
                  rw [hkn] at HLQ
                  have HL2 := hide HLQ.out.fin
                  have cb := HLQ.out.mrk.lt
                  clear HLQ cb
                  go_wp2_with fail
                  go_roundw
                  case rel => exact ⟨i + 1, _, by omega, by go_num, HL2, HBq⟩
                  case measure => simp [intOf]; omega
        · have hin : i = T.rules.length := by omega
          subst hin
          have HRS := hide (HF2.out.keep (HBr.out.block _ hl2))
          have HBr2 := hide (HB.out.trans (HBr.out.mono HB.out.size))
          have HFIN : Hid (∀ w5 : World, wr.heap.size ≤ w5.heap.size → (∀ k, (k ≠ w.heap.size + 1 ∧ w.heap.size ≤ k ∧ k < wr.heap.size) → w5.heap[k]? = wr.heap[k]?) → TA w5.heap.size w5 (turnT T a b x y) fa2 fc2 (some ⟨g, 0, none⟩) rc2 (some ⟨gB, 0, none⟩) bc2) := hide fun w5 hsz hot => by
            have hs0 := HL.out.sz
            have hq0 := HL.out.ql
            have hlb := HLB.out
            have hgl := (HTW.out.r.lt g rfl)
            have hgB := HL.out.fx.lt
            have hag : Ag Z Z w1 w5 := fun k hk => ⟨hk, by
              obtain ⟨z1, z2, z3⟩ := HZ.out k hk
              have z4 := (HTW.out.z k hk).1
              rw [hot k (by omega), HL.out.old k (by omega) z2, HKC.out k z1 z2 z3]⟩
            have hzl : ∀ k, Z k → k < w5.heap.size := fun k hk => by have := (HZ.out k hk).2.2; omega
            refine ⟨lists_rz (RZ.keep HTW.out.f hag fun _ _ => cLz_ag _ _ _ _ _ _ hag) hzl, ?_, ?_⟩
            · have hE := HE.out
              obtain ⟨⟨rfl, rfl⟩, rfl, rfl⟩ := hE
              have hF := HRC.out.keep (w' := w5) (by rw [hot g (by omega), HL.out.old g (by omega) (fun e => hgne e.symm)])
              refine ⟨some ⟨g, 0, none⟩, rc2, rfl, by rw [turn_len]; exact hnc, by rw [turn_len]; omega, fun i r hi => ?_⟩
              obtain ⟨v, c0, c1, c2, hv⟩ := rules_turned HX.out HY.out (List.getElem?_eq_some_iff.1 (of_take HCT.out HEX.out.2.2)).1 (List.getElem?_eq_some_iff.1 (of_take HCT.out HEY.out.2.2)).1 HXR.out HYR.out (fun j r hr => by
                obtain ⟨v, h1, h2⟩ := HTW.out.re j r hr
                obtain ⟨d0, d1, d2⟩ := chunk3 h1
                exact ⟨v, of_take HCT.out d0, of_take HCT.out d1, of_take HCT.out d2, h2⟩) hi
              refine ⟨g, 0, [.int .i64 r.kind, .int .i64 r.head, v], rfl, by omega, rfl, fun j u hu => ?_, v, rfl, RZ.rr (RZ.keep hv hag fun _ _ h => h) hzl fun _ _ h => h⟩
              rw [Nat.zero_add]
              match j with
              | 0 => cases hu; exact hF.get c0
              | 1 => cases hu; exact hF.get c1
              | 2 => cases hu; exact hF.get c2
              | _ + 3 => cases hu
            · have hF := HL.out.fx.keep (w' := w5) (hot gB (by omega))
              refine ⟨some ⟨gB, 0, none⟩, bc2, rfl, by rw [turn_bl, ← HBL2.out]; exact hncB, by rw [turn_bl]; omega, fun i l hi => ?_⟩
              have hin : i < T.rules.length := by rw [← turn_bl (T := T) (a := a) (b := b) (x := x) (y := y)]; exact (List.getElem?_eq_some_iff.1 hi).1
              rw [turn_beats hin] at hi
              have el : soL (p i) T.rules.length = l := by rw [← HPP.out]; exact Option.some.inj hi
              obtain ⟨va, vc, h1, h2⟩ := HL.out.done i hin
              rw [el] at h1 h2
              have hll : l.length ≤ T.rules.length := by rw [← el]; exact soL_len
              have h3 : w5.ownsRow wc.heap.size 3 1 (.slice va l.length vc) l.length (ints l) := owns_keep h2 fun k hk => hot k (by have := h2.lt k hk; omega)
              refine ⟨gB, 0, [.slice va l.length vc], rfl, by omega, rfl, fun j u hu => ?_, _, rfl, RZ.rr (rz_ints (Z := fun k => k < w5.heap.size) h3 (fun k hk => (h3.lt k hk).2) (by omega)) (fun _ h => h) fun _ _ h => h⟩
              match j with
              | 0 => cases hu; rw [Nat.zero_add, Nat.mul_one]; exact hF.get h1
              | _ + 1 => cases hu
          have r0 := HL.out.bx.get (i := 0) (by rw [← HBX.out]; rfl)
          have r1 := HL.out.bx.get (i := 1) (by rw [← HBX.out]; rfl)
          have s0 := HRS.out.get (i := 0) rfl
          have s1 := HRS.out.get (i := 1) rfl
          have s2 := HRS.out.get (i := 2) rfl
          have s3 := HRS.out.get (i := 3) rfl
          have f0 := HRS.out.frz 0
          have f1 := HRS.out.frz 1
          have f2 := HRS.out.frz 2
          have f3 := HRS.out.frz 3
          clear HL HBX HRW HGC HQC HTW
          go_wp2_with fail
          have HG5 := hide ((((HRS.out.set 0 (.int .i64 T.lits)).set 1 (.slice fa2 T.foes.length fc2)).set 2 (.slice (some ⟨g, 0, none⟩) T.rules.length rc2)).set 3 (.slice (some ⟨gB, 0, none⟩) T.rules.length bc2))
          have HB5 := hide ((((HBr2.out.setCell (p := ⟨w.heap.size + 1, 0, none⟩) (Nat.le_succ _) (.int .i64 T.lits)).setCell (p := ⟨w.heap.size + 1, 1, none⟩) (Nat.le_succ _) (.slice fa2 T.foes.length fc2)).setCell (p := ⟨w.heap.size + 1, 2, none⟩) (Nat.le_succ _) (.slice (some ⟨g, 0, none⟩) T.rules.length rc2)).setCell (p := ⟨w.heap.size + 1, 3, none⟩) (Nat.le_succ _) (.slice (some ⟨gB, 0, none⟩) T.rules.length bc2))
          refine bodyPost_ret (results_cell_row rfl _ _ (w.heap.size + 1) 25 #[.int .i64 T.lits, .slice fa2 T.foes.length fc2, .slice (some ⟨g, 0, none⟩) T.rules.length rc2, .slice (some ⟨gB, 0, none⟩) T.rules.length bc2] _ _ rfl HG5.out Try.underlying25 rfl (by kernel_rfl)) rfl ?_
          exact ⟨fa2, fc2, _, rc2, _, bc2, by unfold tv; rw [turn_len, turn_bl]; rfl, fun w5 h5 h6 => HFIN.out w5 (by simpa using h5) (fun k hk => by rw [h6 k hk.2.1 (by simpa using hk.2.2), other_set hk.1, other_set hk.1, other_set hk.1, other_set hk.1]), HB5.out⟩
end Go.Proofs.Ythifoamnmhlghaa.Fa
