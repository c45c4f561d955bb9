/- Foes: returned, foeFault. -/
import Derived.Test.YthifoamnmhlghaaGreatBs
import Derived.Test.YthifoamnmhlghaaGreatBackN
namespace Go.Proofs.YthifoamnmhlghaaGreat
open Go.RowKit

/-- A theory's box. -/
structure Bt (q : Nat) (a b c d : Value) (W : World) : Prop where
  box : W.heap[q]? = some (.cells #[a, b, c, d] 25 (0, 0))
  c0 : W.cell? ⟨q, 0, none⟩ = some a
  c1 : W.cell? ⟨q, 1, none⟩ = some b
  c2 : W.cell? ⟨q, 2, none⟩ = some c
  c3 : W.cell? ⟨q, 3, none⟩ = some d
theorem Bt.of {q : Nat} {a b c d : Value} {W : World} (h : W.heap[q]? = some (.cells #[a, b, c, d] 25 (0, 0))) : Bt q a b c d W :=
  ⟨h, cell_of_row W q 0 _ _ _ h, cell_of_row W q 1 _ _ _ h, cell_of_row W q 2 _ _ _ h, cell_of_row W q 3 _ _ _ h⟩
theorem Bt.new (w : World) (a b c d : Value) : Bt w.heap.size a b c d (w.alloc (.cells #[a, b, c, d] 25)) := Bt.of (heap_alloc_new w _)
theorem Bt.keep {q : Nat} {a b c d : Value} {W W' : World} (h : Bt q a b c d W) (hb : W'.heap[q]? = W.heap[q]?) : Bt q a b c d W' := Bt.of (hb.trans h.box)
theorem Bt.lt {q : Nat} {a b c d : Value} {W : World} (h : Bt q a b c d W) : q < W.heap.size := loc_lt h.box
theorem below_new (w : World) (o : Obj) : Below w.heap.size w (w.alloc o) := (Below.refl _ w).alloc (Nat.le_refl _) _
abbrev tv (T : Th) (fa : Option Addr) (fc : Nat) (ra : Option Addr) (rc : Nat) (ba : Option Addr) (bc : Nat) : Value := .agg #[.int .i64 T.lits, .slice fa T.foes.length fc, .slice ra T.rules.length rc, .slice ba T.beats.length bc]
/-- A theory that may be read, by its lists' places. -/
abbrev TA (N : Nat) (w : World) (T : Th) (fa : Option Addr) (fc : Nat) (ra : Option Addr) (rc : Nat) (ba : Option Addr) (bc : Nat) : Prop := TR N w T (.slice fa T.foes.length fc) (.slice ra T.rules.length rc) (.slice ba T.beats.length bc)
theorem TR.form {N : Nat} {w : World} {T : Th} {fv rv bv : Value} (h : TR N w T fv rv bv) : ∃ fa fc ra rc ba bc, fv = .slice fa T.foes.length fc ∧ rv = .slice ra T.rules.length rc ∧ bv = .slice ba T.beats.length bc ∧ T.foes.length ≤ 140737488351232 ∧ T.rules.length ≤ 140737488351232 ∧ T.beats.length ≤ 140737488351232 := by
  obtain ⟨fa, fc, e1, _, h1⟩ := h.foes.form
  obtain ⟨ra, rc, e2, _, h2⟩ := h.rules.form
  obtain ⟨ba, bc, e3, _, h3⟩ := h.beats.form
  exact ⟨fa, fc, ra, rc, ba, bc, e1, e2, e3, h1, h2, h3⟩
theorem lim_of {α : Type} {N k : Nat} {c : World → α → List Value → Prop} {w : World} {l : List α} {v : Value} (h : RR N k c w l v) : l.length ≤ 140737488351232 := h.lim
theorem all_step {p : Int → Bool} {l : List Int} {k : Nat} {x : Int} (hx : l[k]? = some x) : (l.drop k).all p = (p x && (l.drop (k + 1)).all p) := by rw [drop_at hx]; rfl

set_option maxRecDepth 100000 in
set_option maxHeartbeats 6400000 in
theorem returned_any {w : World} {T : Th} {fa ra ba : Option Addr} {fc rc bc i : Nat} {l : List Int} (h : Lists w.heap.size w T.foes (.slice fa T.foes.length fc)) (hi : T.foes[i]? = some l) (hr : ∀ f ∈ l, 0 ≤ f ∧ f < (T.foes.length : Int)) :
    Calls Tryz.prog 46 #[tv T fa fc ra rc ba bc, .int .i64 i] w fun e w' => e = .returned (.bool (returnedM T.foes i l)) ∧ Below w.heap.size w w' := by
  have hB := below_new w (.cells #[.int .i64 T.lits, .slice fa T.foes.length fc, .slice ra T.rules.length rc, .slice ba T.beats.length bc] 25)
  have hL := h.go hB
  have hX := Bt.new w (.int .i64 T.lits) (.slice fa T.foes.length fc) (.slice ra T.rules.length rc) (.slice ba T.beats.length bc)
  have hil : i < T.foes.length := (List.getElem?_eq_some_iff.1 hi).1
  have hfl := h.lim
  obtain ⟨o, ho⟩ : ∃ o, returnedM T.foes i l = o := ⟨_, rfl⟩
  rw [ho]
  have HO : Hid ((l.drop 0).all (fun f => decide ((i : Int) ∈ row T.foes f)) = o) := hide (by rw [List.drop_zero]; exact ho)
  clear h ho
  go_enter Tryz.func46, Tryz.ntmps46
  go_upto_region 1 with fail
  generalize w.alloc (.cells #[.int .i64 T.lits, .slice fa T.foes.length fc, .slice ra T.rules.length rc, .slice ba T.beats.length bc] 25) = W at *
  obtain ⟨-, c0, c1, c2, c3⟩ := hX
  obtain ⟨g, of, a2, c2', rfl, -, kc, hc2, hll, hI⟩ := at_L hL hi
  have HL := hide hL
  have HI := hide hI.at1
  have HB := hide hB
  have HR := hide hr
  clear hL hI hB hi hr
  go_wp2_with fail
  go_loop [13] (fun x => ∃ k : Nat, k ≤ l.length ∧ x = .int .i64 k ∧ Hid ((l.drop k).all (fun f => decide ((i : Int) ∈ row T.foes f)) = o)) (fun x => l.length - (intOf x).toNat)
  case atStart => exact ⟨0, by omega, rfl, HO⟩
  case round =>
    clear HO
    obtain ⟨k, hk, rfl, HK⟩ := hrel
    by_cases hlt : k < l.length
    · obtain ⟨x, hx⟩ := get_at hlt
      obtain ⟨g1, o1, rfl, kc1⟩ := HI.out.get hx
      have hxr := HR.out x (List.mem_of_getElem? hx)
      obtain ⟨q, rfl⟩ := Int.eq_ofNat_of_zero_le hxr.1
      have hq : q < T.foes.length := by omega
      obtain ⟨m, hm⟩ := get_at hq
      obtain ⟨_, _, a3, c3', e, -, kc2, -, hml, hI2⟩ := at_L HL.out hm
      cases e
      have CH := hide (has_any (c := c3') hI2.at1 hml i)
      have HS := hide (all_step (p := fun f => decide ((i : Int) ∈ row T.foes f)) hx)
      have HRow : Hid (row T.foes (q : Int) = m) := hide (row_at (by simpa using hm))
      clear hx hI2 hxr hm
      by_cases hin : (i : Int) ∈ m
      · have HN : Hid ((l.drop (k + 1)).all (fun f => decide ((i : Int) ∈ row T.foes f)) = o) := hide (by
          have := HK.out
          rw [HS.out, HRow.out, decide_eq_true hin, Bool.true_and] at this
          exact this)
        rw [decide_eq_true hin] at CH
        clear HK HS HRow hin
        go_wp2_with (go_at_call 45; refine CH.out.mono ?_; rintro _ w1 ⟨rfl, hw⟩; subst w1)
        go_round
        case rel => exact ⟨k + 1, by omega, by go_num, HN⟩
        case measure => simp [intOf]; omega
      · have HN : Hid (false = o) := hide (by
          have := HK.out
          rw [HS.out, HRow.out, decide_eq_false hin, Bool.false_and] at this
          exact this)
        rw [decide_eq_false hin] at CH
        clear HK HS HRow hin
        go_wp2_with (go_at_call 45; refine CH.out.mono ?_; rintro _ w1 ⟨rfl, hw⟩; subst w1)
        go_ret
        exact ⟨ret_bool HN.out, HB.out⟩
    · have HN : Hid (true = o) := hide (by
        have := HK.out
        rw [drop_end (by omega)] at this
        exact this)
      go_wp2_with fail
      go_ret
      exact ⟨ret_bool HN.out, HB.out⟩
end Go.Proofs.YthifoamnmhlghaaGreat
