/- Decode. -/
import Derived.Test.YtdmnoeooljofcaaRdw
import Derived.Recover
import Derived.Laws.Pointers
namespace Go.Proofs.Ytdmnoeooljofcaa
open Go.RowKit

set_option maxRecDepth 100000 in
set_option maxHeartbeats 1600000 in
theorem faultOf_any (c p : Int) (w : World) : Calls Try.prog 22 #[.iface 56 (.agg #[.int .i64 c, .int .i64 p])] w fun e w' => e = .returned (.agg #[.int .i64 c, .int .i64 p]) ∧ Below w.heap.size w w' := by
  have hta : ∀ w : World, (Instr.typeAssert (.iface 56 (.agg #[.int .i64 c, .int .i64 p])) 20 56 true).run Try.prog w = .ok (.tuple #[.agg #[.int .i64 c, .int .i64 p], .bool true]) w := fun w => by kernel_rfl
  go_enter Try.func22, Try.ntmps22
  go_wp2_with fail
  simp [bodyPost, results, Try.results22, go_sem]
  exact ((Below.refl _ w).alloc (Nat.le_refl _) _).alloc (by simp) _
set_option maxRecDepth 100000 in
set_option maxHeartbeats 1600000 in
theorem catch_idle (a b c : Value) (w : World) : CallsD Try.prog 21 #[a, b, c] .returning w fun e u' w' => e = .returned (.tuple #[]) ∧ u' = .returning ∧ w' = w := by
  refine callsD_of_wpS Try.func21 rfl fun c₀ cs hu => ?_
  apply wpS_seq
  apply wpS_region
  simp [wpOpsS, go_sem, recoverD, hu, Try.ntmps21, Exit.thenS]
  apply wpS_of_wp
  go_wp2_with fail
  cases c₀
  simp_all [bodyPostS, results, Try.results21]
theorem Fx.drew {g T : Nat} {vs : List Value} {w : World} (h : Fx g T vs w) : Fx g T vs w.drew := h
theorem Fr.drew {Z : Nat → Prop} {w w' : World} (h : Fr Z w w') : Fr Z w w'.drew := h.trans (.of_below (Below.refl _ _).drew)
theorem three_sets {w2 : World} {q0 q1 q2 : Nat} {e p : Int} {y0 y1 y2 y3 y4 y5 : Value} (K0 : Fx q0 27 [y0, y1, y2, y3] w2) (K1 : Fx q1 28 [y4] w2) (K2 : Fx q2 3 [y5] w2) :
    ((((((w2.setCell ⟨q0, 0, none⟩ (.int .i64 0)).setCell ⟨q0, 1, none⟩ (.slice none 0 0)).setCell ⟨q0, 2, none⟩ (.slice none 0 0)).setCell ⟨q0, 3, none⟩ (.slice none 0 0))).cell? ⟨q1, 0, none⟩ = some y4 ∧ (((((w2.setCell ⟨q0, 0, none⟩ (.int .i64 0)).setCell ⟨q0, 1, none⟩ (.slice none 0 0)).setCell ⟨q0, 2, none⟩ (.slice none 0 0)).setCell ⟨q0, 3, none⟩ (.slice none 0 0))).frozen? ⟨q1, 0, none⟩ = false) ∧ (((((((w2.setCell ⟨q0, 0, none⟩ (.int .i64 0)).setCell ⟨q0, 1, none⟩ (.slice none 0 0)).setCell ⟨q0, 2, none⟩ (.slice none 0 0)).setCell ⟨q0, 3, none⟩ (.slice none 0 0)).setCell ⟨q1, 0, none⟩ (.int .i64 e))).cell? ⟨q2, 0, none⟩ = some y5 ∧ ((((((w2.setCell ⟨q0, 0, none⟩ (.int .i64 0)).setCell ⟨q0, 1, none⟩ (.slice none 0 0)).setCell ⟨q0, 2, none⟩ (.slice none 0 0)).setCell ⟨q0, 3, none⟩ (.slice none 0 0)).setCell ⟨q1, 0, none⟩ (.int .i64 e))).frozen? ⟨q2, 0, none⟩ = false) ∧
    Fx q0 27 [.int .i64 0, .slice none 0 0, .slice none 0 0, .slice none 0 0] (((((((w2.setCell ⟨q0, 0, none⟩ (.int .i64 0)).setCell ⟨q0, 1, none⟩ (.slice none 0 0)).setCell ⟨q0, 2, none⟩ (.slice none 0 0)).setCell ⟨q0, 3, none⟩ (.slice none 0 0)).setCell ⟨q1, 0, none⟩ (.int .i64 e)).setCell ⟨q2, 0, none⟩ (.int .i64 p))) ∧ Fx q1 28 [.int .i64 e] (((((((w2.setCell ⟨q0, 0, none⟩ (.int .i64 0)).setCell ⟨q0, 1, none⟩ (.slice none 0 0)).setCell ⟨q0, 2, none⟩ (.slice none 0 0)).setCell ⟨q0, 3, none⟩ (.slice none 0 0)).setCell ⟨q1, 0, none⟩ (.int .i64 e)).setCell ⟨q2, 0, none⟩ (.int .i64 p))) ∧ Fx q2 3 [.int .i64 p] (((((((w2.setCell ⟨q0, 0, none⟩ (.int .i64 0)).setCell ⟨q0, 1, none⟩ (.slice none 0 0)).setCell ⟨q0, 2, none⟩ (.slice none 0 0)).setCell ⟨q0, 3, none⟩ (.slice none 0 0)).setCell ⟨q1, 0, none⟩ (.int .i64 e)).setCell ⟨q2, 0, none⟩ (.int .i64 p))) ∧ Fr (fun k => k = q0 ∨ k = q1 ∨ k = q2) w2 (((((((w2.setCell ⟨q0, 0, none⟩ (.int .i64 0)).setCell ⟨q0, 1, none⟩ (.slice none 0 0)).setCell ⟨q0, 2, none⟩ (.slice none 0 0)).setCell ⟨q0, 3, none⟩ (.slice none 0 0)).setCell ⟨q1, 0, none⟩ (.int .i64 e)).setCell ⟨q2, 0, none⟩ (.int .i64 p))) := by
  have n01 : q1 ≠ q0 := fx_ne K1 K0 (by decide)
  have n02 : q2 ≠ q0 := fx_ne K2 K0 (by decide)
  have n12 : q2 ≠ q1 := fx_ne K2 K1 (by decide)
  have A0 := (((K0.set 0 (.int .i64 0)).set 1 (.slice none 0 0)).set 2 (.slice none 0 0)).set 3 (.slice none 0 0)
  simp only [List.set_cons_zero, List.set_cons_succ] at A0
  have A1 := (((K1.keep (other_set (i := 0) (v := .int .i64 0) n01)).keep (other_set (i := 1) (v := .slice none 0 0) n01)).keep (other_set (i := 2) (v := .slice none 0 0) n01)).keep (other_set (i := 3) (v := .slice none 0 0) n01)
  have A2 := (((K2.keep (other_set (i := 0) (v := .int .i64 0) n02)).keep (other_set (i := 1) (v := .slice none 0 0) n02)).keep (other_set (i := 2) (v := .slice none 0 0) n02)).keep (other_set (i := 3) (v := .slice none 0 0) n02)
  have B2 := A2.keep (other_set (i := 0) (v := .int .i64 e) n12)
  have F0 : Fr (fun k => k = q0 ∨ k = q1 ∨ k = q2) w2 (((((w2.setCell ⟨q0, 0, none⟩ (.int .i64 0)).setCell ⟨q0, 1, none⟩ (.slice none 0 0)).setCell ⟨q0, 2, none⟩ (.slice none 0 0)).setCell ⟨q0, 3, none⟩ (.slice none 0 0))) := (((Fr.refl _ _).trans (.setCell ⟨q0, 0, none⟩ _ (.inl rfl))).trans (.setCell ⟨q0, 1, none⟩ _ (.inl rfl))).trans (.setCell ⟨q0, 2, none⟩ _ (.inl rfl)) |>.trans (.setCell ⟨q0, 3, none⟩ _ (.inl rfl))
  generalize ((((w2.setCell ⟨q0, 0, none⟩ (.int .i64 0)).setCell ⟨q0, 1, none⟩ (.slice none 0 0)).setCell ⟨q0, 2, none⟩ (.slice none 0 0)).setCell ⟨q0, 3, none⟩ (.slice none 0 0)) = X at *
  refine ⟨⟨A1.get rfl, A1.frz 0⟩, ⟨B2.get rfl, B2.frz 0⟩, ?_, ?_, B2.set 0 _, (F0.trans (.setCell ⟨q1, 0, none⟩ _ (.inr (.inl rfl)))).trans (.setCell ⟨q2, 0, none⟩ _ (.inr (.inr rfl)))⟩
  · exact (A0.keep (other_set (Ne.symm n01))).keep (other_set (Ne.symm n02))
  · exact (A1.set 0 _).keep (other_set (Ne.symm n12))
set_option maxRecDepth 100000 in
set_option maxHeartbeats 3200000 in
theorem catch_fault {q0 q1 q2 : Nat} (e p : Int) (older : List PanicEntry) (w : World) {y0 y1 y2 y3 y4 y5 : Value} (h0 : Fx q0 27 [y0, y1, y2, y3] w) (h1 : Fx q1 28 [y4] w) (h2 : Fx q2 3 [y5] w) :
    CallsD Try.prog 21 #[ptr q0, ptr q1, ptr q2] (.panicking (flt e p :: older)) w fun r u' w' =>
      r = .returned (.tuple #[]) ∧ u' = .panicking ({ v := .iface 56 (.agg #[.int .i64 e, .int .i64 p]), recovered := true } :: older) ∧
      Fx q0 27 [.int .i64 0, .slice none 0 0, .slice none 0 0, .slice none 0 0] w' ∧ Fx q1 28 [.int .i64 e] w' ∧ Fx q2 3 [.int .i64 p] w' ∧ Fr (fun k => k = q0 ∨ k = q1 ∨ k = q2) w w' := by
  have H0 := hide h0
  have H1 := hide h1
  have H2 := hide h2
  have CF := hide (faultOf_any e p w)
  clear h0 h1 h2
  refine callsD_of_wpS Try.func21 rfl fun c₀ cs hu => ?_
  apply wpS_seq
  apply wpS_region
  have hrep : (Array.replicate 12 undef : Array Value) = #[undef, undef, undef, undef, undef, undef, undef, undef, undef, undef, undef, undef] := rfl
  simp [wpOpsS, go_sem, recoverD, hu, Try.ntmps21, Exit.thenS, hrep]
  clear hrep
  apply wpS_of_wp
  go_wp2_with fail
  refine CF.out.mono ?_
  rintro _ w1 ⟨rfl, hb⟩
  have hA := below_new w1 (.cells #[.int .i64 e, .int .i64 p] 56)
  have hbb : Below w.heap.size w (w1.alloc (.cells #[.int .i64 e, .int .i64 p] 56)) := hb.trans (hA.mono hb.size)
  have HX := hide (heap_alloc_new w1 (.cells #[.int .i64 e, .int .i64 p] 56))
  have HF : Hid (Fr (fun k => k = q0 ∨ k = q1 ∨ k = q2) w (w1.alloc (.cells #[.int .i64 e, .int .i64 p] 56))) := hide (.of_below hbb)
  have K0 := hide (H0.out.keep (hbb.block _ H0.out.lt))
  have K1 := hide (H1.out.keep (hbb.block _ H1.out.lt))
  have K2 := hide (H2.out.keep (hbb.block _ H2.out.lt))
  clear hb hA hbb CF H0 H1 H2
  go_upto_region 3 with fail
  generalize w1.alloc (.cells #[.int .i64 e, .int .i64 p] 56) = w2 at *
  generalize w1.heap.size = fb at *
  have f0 := cell_of_row w2 fb 0 _ _ _ HX.out
  have f1 := cell_of_row w2 fb 1 _ _ _ HX.out
  simp only [List.getElem?_toArray, List.getElem?_cons_zero, List.getElem?_cons_succ] at f0 f1
  have z0 : w2.cell? ⟨q0, 0, none⟩ = some y0 := K0.out.get rfl
  have z1 : w2.cell? ⟨q0, 1, none⟩ = some y1 := K0.out.get rfl
  have z2 : w2.cell? ⟨q0, 2, none⟩ = some y2 := K0.out.get rfl
  have z3 : w2.cell? ⟨q0, 3, none⟩ = some y3 := K0.out.get rfl
  have zf := K0.out.frz
  obtain ⟨⟨a1, a1f⟩, ⟨a2, a2f⟩, R0, R1, R2, RF⟩ := three_sets (e := e) (p := p) K0.out K1.out K2.out
  have HR0 := hide R0
  have HR1 := hide R1
  have HR2 := hide R2
  have HRF := hide (HF.out.trans RF)
  have m0 : ¬ fb = q0 := fx_ne (T := 56) (vs := [.int .i64 e, .int .i64 p]) HX.out K0.out (by decide)
  have m1 : ¬ fb = q1 := fx_ne (T := 56) (vs := [.int .i64 e, .int .i64 p]) HX.out K1.out (by decide)
  have m2 : ¬ fb = q2 := fx_ne (T := 56) (vs := [.int .i64 e, .int .i64 p]) HX.out K2.out (by decide)
  have m0' : ¬ q0 = fb := fun h => m0 h.symm
  have m1' : ¬ q1 = fb := fun h => m1 h.symm
  have m2' : ¬ q2 = fb := fun h => m2 h.symm
  have n01 : ¬ q1 = q0 := fx_ne K1.out K0.out (by decide)
  have n02 : ¬ q2 = q0 := fx_ne K2.out K0.out (by decide)
  have n12 : ¬ q2 = q1 := fx_ne K2.out K1.out (by decide)
  have n01' : ¬ q0 = q1 := fun h => n01 h.symm
  have n02' : ¬ q0 = q2 := fun h => n02 h.symm
  have n12' : ¬ q1 = q2 := fun h => n12 h.symm
  have y4c : w2.cell? ⟨q1, 0, none⟩ = some y4 := K1.out.get rfl
  have y4f := K1.out.frz 0
  have y5c : w2.cell? ⟨q2, 0, none⟩ = some y5 := K2.out.get rfl
  have y5f := K2.out.frz 0
  clear R0 R1 R2 RF K0 K1 K2 HX HF a1 a1f a2 a2f
  go_region
  go_wp2_with fail
  exact ⟨rfl, _, rfl, .tuple #[], by simp [results, Try.results21], rfl, rfl, HR0.out.drew, HR1.out.drew, HR2.out.drew, HRF.out.drew⟩
/-- What Decode answers. -/
def Decd (zs : List Int) (w : World) (e : Ending) (w' : World) : Prop := match wholeM zs with
  | .ok T => ∃ fa fc ra rc ba bc, e = .returned (.tuple #[tv T fa fc ra rc ba bc, .int .i64 0, .int .i64 zs.length]) ∧ TZ w.heap.size w' T (.slice fa T.foes.length fc) (.slice ra T.rules.length rc) (.slice ba T.beats.length bc)
  | .error c => e = .returned (.tuple #[tv noTh none 0 none 0 none 0, .int .i64 c.1, .int .i64 c.2])
theorem Decd.yes {zs : List Int} {w w' : World} {e : Ending} {T : Th} {fa fc ra rc ba bc} (h : wholeM zs = .ok T) (he : e = .returned (.tuple #[tv T fa fc ra rc ba bc, .int .i64 0, .int .i64 zs.length])) (hz : TZ w.heap.size w' T (.slice fa T.foes.length fc) (.slice ra T.rules.length rc) (.slice ba T.beats.length bc)) : Decd zs w e w' := by unfold Decd; rw [h]; exact ⟨fa, fc, ra, rc, ba, bc, he, hz⟩
theorem Decd.no {zs : List Int} {w w' : World} {e : Ending} {c : Int × Int} (h : wholeM zs = .error c) (he : e = .returned (.tuple #[tv noTh none 0 none 0 none 0, .int .i64 c.1, .int .i64 c.2])) : Decd zs w e w' := by unfold Decd; rw [h]; exact he
structure D4 (w W : World) (v0 v1 v2 v3 v4 v5 : Value) : Prop where
  low : Below w.heap.size w W
  b0 : Fx w.heap.size 27 [v0, v1, v2, v3] W
  b1 : Fx (w.heap.size + 1) 28 [v4] W
  b2 : Fx (w.heap.size + 1 + 1) 3 [v5] W
theorem six_sets {w2 : World} {q0 q1 q2 : Nat} {a b c d u v y0 y1 y2 y3 y4 y5 : Value} (K0 : Fx q0 27 [y0, y1, y2, y3] w2) (K1 : Fx q1 28 [y4] w2) (K2 : Fx q2 3 [y5] w2) :
    Fx q0 27 [a, b, c, d] ((((((w2.setCell ⟨q0, 0, none⟩ a).setCell ⟨q0, 1, none⟩ b).setCell ⟨q0, 2, none⟩ c).setCell ⟨q0, 3, none⟩ d).setCell ⟨q1, 0, none⟩ u).setCell ⟨q2, 0, none⟩ v) ∧ Fx q1 28 [u] ((((((w2.setCell ⟨q0, 0, none⟩ a).setCell ⟨q0, 1, none⟩ b).setCell ⟨q0, 2, none⟩ c).setCell ⟨q0, 3, none⟩ d).setCell ⟨q1, 0, none⟩ u).setCell ⟨q2, 0, none⟩ v) ∧ Fx q2 3 [v] ((((((w2.setCell ⟨q0, 0, none⟩ a).setCell ⟨q0, 1, none⟩ b).setCell ⟨q0, 2, none⟩ c).setCell ⟨q0, 3, none⟩ d).setCell ⟨q1, 0, none⟩ u).setCell ⟨q2, 0, none⟩ v) ∧ Fr (fun k => k = q0 ∨ k = q1 ∨ k = q2) w2 ((((((w2.setCell ⟨q0, 0, none⟩ a).setCell ⟨q0, 1, none⟩ b).setCell ⟨q0, 2, none⟩ c).setCell ⟨q0, 3, none⟩ d).setCell ⟨q1, 0, none⟩ u).setCell ⟨q2, 0, none⟩ v) := by
  have n01 : q1 ≠ q0 := fx_ne K1 K0 (by decide)
  have n02 : q2 ≠ q0 := fx_ne K2 K0 (by decide)
  have n12 : q2 ≠ q1 := fx_ne K2 K1 (by decide)
  have A0 := (((K0.set 0 a).set 1 b).set 2 c).set 3 d
  simp only [List.set_cons_zero, List.set_cons_succ] at A0
  have A1 := (((K1.keep (other_set (i := 0) (v := a) n01)).keep (other_set (i := 1) (v := b) n01)).keep (other_set (i := 2) (v := c) n01)).keep (other_set (i := 3) (v := d) n01)
  have A2 := (((K2.keep (other_set (i := 0) (v := a) n02)).keep (other_set (i := 1) (v := b) n02)).keep (other_set (i := 2) (v := c) n02)).keep (other_set (i := 3) (v := d) n02)
  have B2 := A2.keep (other_set (i := 0) (v := u) n12)
  have F0 : Fr (fun k => k = q0 ∨ k = q1 ∨ k = q2) w2 ((((w2.setCell ⟨q0, 0, none⟩ a).setCell ⟨q0, 1, none⟩ b).setCell ⟨q0, 2, none⟩ c).setCell ⟨q0, 3, none⟩ d) := (((Fr.refl _ _).trans (.setCell ⟨q0, 0, none⟩ _ (.inl rfl))).trans (.setCell ⟨q0, 1, none⟩ _ (.inl rfl))).trans (.setCell ⟨q0, 2, none⟩ _ (.inl rfl)) |>.trans (.setCell ⟨q0, 3, none⟩ _ (.inl rfl))
  generalize ((((w2.setCell ⟨q0, 0, none⟩ a).setCell ⟨q0, 1, none⟩ b).setCell ⟨q0, 2, none⟩ c).setCell ⟨q0, 3, none⟩ d) = X at *
  refine ⟨?_, ?_, B2.set 0 _, (F0.trans (.setCell ⟨q1, 0, none⟩ _ (.inr (.inl rfl)))).trans (.setCell ⟨q2, 0, none⟩ _ (.inr (.inr rfl)))⟩
  · exact (A0.keep (other_set (Ne.symm n01))).keep (other_set (Ne.symm n02))
  · exact (A1.set 0 _).keep (other_set (Ne.symm n12))
theorem undrew {w : World} {k : Nat} {o : Obj} (h : w.drew.heap[k]? = some o) : w.heap[k]? = some o := h
theorem undrewB {B : Nat} {w w' : World} (h : Below B w w'.drew) : Below B w w' := ⟨h.os, h.tape, h.output, h.size, h.block⟩
theorem four (w : World) (o0 o1 o2 o3 : Obj) : Below w.heap.size w ((((w.alloc o0).alloc o1).alloc o2).alloc o3) ∧ ((((w.alloc o0).alloc o1).alloc o2).alloc o3).heap[w.heap.size]? = some o0 ∧ ((((w.alloc o0).alloc o1).alloc o2).alloc o3).heap[w.heap.size + 1]? = some o1 ∧ ((((w.alloc o0).alloc o1).alloc o2).alloc o3).heap[w.heap.size + 1 + 1]? = some o2 ∧ ((((w.alloc o0).alloc o1).alloc o2).alloc o3).heap[w.heap.size + 1 + 1 + 1]? = some o3 := by
  obtain ⟨h1, h2, h3, h4, h5⟩ := alloc4 w o0 o1 o2 o3
  exact ⟨undrewB h1, undrew h2, undrew h3, undrew h4, undrew h5⟩
theorem D4.fr {w W X : World} {v0 v1 v2 v3 v4 v5 : Value} (h : D4 w W v0 v1 v2 v3 v4 v5) (hf : Fr (fun k => k = w.heap.size + 1 + 1 + 1) W X) : D4 w X v0 v1 v2 v3 v4 v5 :=
  ⟨h.low.trans (hf.below fun k hk => ⟨by have := h.b0.lt; omega, by omega⟩), h.b0.keep (hf.block _ h.b0.lt (by omega)), h.b1.keep (hf.block _ h.b1.lt (by omega)), h.b2.keep (hf.block _ h.b2.lt (by omega))⟩
set_option maxRecDepth 100000 in
set_option maxHeartbeats 6400000 in
theorem decode_any {w : World} {ba : Option Addr} {bc : Nat} {zs : List Int} (hrow : Row w ba zs) (hcap : zs.length ≤ bc) (hnil : ba = none → bc = 0) (hlen : zs.length ≤ 140737488351232) :
    Calls Try.prog 6 #[.slice ba zs.length bc] w fun e w' => Decd zs w e w' ∧ Below w.heap.size w w' := by
  have hmf : ∀ (fn : Fn) (first cap : Array Value) (w : World), (Instr.makeFunc fn first cap).run Try.prog w = .ok (.func fn first cap) w := fun _ _ _ _ => rfl
  obtain ⟨hb, q0, q1, q2, q3⟩ := four w (.cells #[.int .i64 0, .slice none 0 0, .slice none 0 0, .slice none 0 0] 27) (.cells #[.int .i64 0] 28) (.cells #[.int .i64 0] 3) (.cells #[.slice ba zs.length bc, .int .i64 0] 60)
  have HD : Hid (D4 w ((((w.alloc (.cells #[.int .i64 0, .slice none 0 0, .slice none 0 0, .slice none 0 0] 27)).alloc (.cells #[.int .i64 0] 28)).alloc (.cells #[.int .i64 0] 3)).alloc (.cells #[.slice ba zs.length bc, .int .i64 0] 60)) (.int .i64 0) (.slice none 0 0) (.slice none 0 0) (.slice none 0 0) (.int .i64 0) (.int .i64 0)) := hide ⟨hb, q0, q1, q2⟩
  have HRd : Hid (Rd (w.heap.size + 1 + 1 + 1) ba bc zs 0 ((((w.alloc (.cells #[.int .i64 0, .slice none 0 0, .slice none 0 0, .slice none 0 0] 27)).alloc (.cells #[.int .i64 0] 28)).alloc (.cells #[.int .i64 0] 3)).alloc (.cells #[.slice ba zs.length bc, .int .i64 0] 60))) := hide ⟨q3, Row.below hrow hb (Nat.le_refl _), fun b off e hz => by
    obtain ⟨b', off', e', hc⟩ := hrow.cells hz
    rw [e] at e'
    cases e'
    have := Row.lt hc hz
    omega, hcap, hnil, hlen, Nat.zero_le _⟩
  clear hb q0 q1 q2 q3 hrow
  go_enter_defers Try.func6, Try.ntmps6
  go_upto_region 3 with fail
  generalize ((((w.alloc (.cells #[.int .i64 0, .slice none 0 0, .slice none 0 0, .slice none 0 0] 27)).alloc (.cells #[.int .i64 0] 28)).alloc (.cells #[.int .i64 0] 3)).alloc (.cells #[.slice ba zs.length bc, .int .i64 0] 60)) = W at *
  have CW := hide (whole_any HRd.out)
  go_wp2_with fail
  refine CW.out.mono ?_
  rintro e X ⟨hf, hE⟩
  have D5 := hide (HD.out.fr hf)
  have hWX : w.heap.size ≤ X.heap.size := D5.out.low.size
  have hWW : w.heap.size + 1 + 1 < W.heap.size := HD.out.b2.lt
  cases hwo : wholeM zs with
  | ok T =>
    rw [hwo] at hE
    obtain ⟨fa, fc, ra, rc, ba2, bc2, rfl, hz⟩ := hE
    have HZ := hide hz
    have HWO := hide hwo
    have z0 : X.cell? ⟨w.heap.size, 0, none⟩ = some (.int .i64 0) := D5.out.b0.get rfl
    have z1 : X.cell? ⟨w.heap.size, 1, none⟩ = some (.slice none 0 0) := D5.out.b0.get rfl
    have z2 : X.cell? ⟨w.heap.size, 2, none⟩ = some (.slice none 0 0) := D5.out.b0.get rfl
    have z3 : X.cell? ⟨w.heap.size, 3, none⟩ = some (.slice none 0 0) := D5.out.b0.get rfl
    have zf := D5.out.b0.frz
    have y1 : X.cell? ⟨w.heap.size + 1, 0, none⟩ = some (.int .i64 0) := D5.out.b1.get rfl
    have y1f := D5.out.b1.frz
    have y2 : X.cell? ⟨w.heap.size + 1 + 1, 0, none⟩ = some (.int .i64 0) := D5.out.b2.get rfl
    have y2f := D5.out.b2.frz
    clear hf hwo hz CW HD HRd
    have SX := six_sets (a := .int .i64 T.lits) (b := .slice fa T.foes.length fc) (c := .slice ra T.rules.length rc) (d := .slice ba2 T.beats.length bc2) (u := .int .i64 0) (v := .int .i64 zs.length) D5.out.b0 D5.out.b1 D5.out.b2
    have HSX := hide SX
    have hXl : w.heap.size + 1 + 1 < X.heap.size := D5.out.b2.lt
    clear SX
    go_wp2_with fail
    generalize ((((((X.setCell ⟨w.heap.size, 0, none⟩ (.int .i64 T.lits)).setCell ⟨w.heap.size, 1, none⟩ (.slice fa T.foes.length fc)).setCell ⟨w.heap.size, 2, none⟩ (.slice ra T.rules.length rc)).setCell ⟨w.heap.size, 3, none⟩ (.slice ba2 T.beats.length bc2)).setCell ⟨w.heap.size + 1, 0, none⟩ (.int .i64 0)).setCell ⟨w.heap.size + 1 + 1, 0, none⟩ (.int .i64 zs.length)) = XF at *
    obtain ⟨k0, k1, k2, hf5⟩ := HSX.out
    refine leaves_cons (f := 21) (args := #[ptr w.heap.size, ptr (w.heap.size + 1), ptr (w.heap.size + 1 + 1)]) (by simp) (by simp [go_sem]) ?_
    refine (catch_idle _ _ _ _).mono ?_
    rintro e u' w5 ⟨rfl, rfl, rfl⟩
    have z0 := k0.get (i := 0) rfl
    have z1 := k0.get (i := 1) rfl
    have z2 := k0.get (i := 2) rfl
    have z3 := k0.get (i := 3) rfl
    have y1 := k1.get (i := 0) rfl
    have y2 := k2.get (i := 0) rfl
    have hz := HZ.out.keep (w' := w5) (fun g hg hl => hf5.block g hl (by omega)) hf5.size
    refine ⟨.tuple #[tv T fa fc ra rc ba2 bc2, .int .i64 0, .int .i64 zs.length], ?_, Decd.yes HWO.out rfl ⟨hz.foes.down (by omega), hz.rules.down (by omega), hz.beats.down (by omega)⟩, D5.out.low.trans (hf5.below fun k hk => ⟨by omega, by omega⟩)⟩
    simp [results, Try.results6, go_sem, z0, z1, z2, z3, y1, y2]
  | error c =>
    rw [hwo] at hE
    have hE' : e = .panicked [flt c.1 c.2] := hE
    subst hE'
    have HWO := hide hwo
    clear hf hwo hE CW HD HRd
    go_wp2_with fail
    refine leaves_cons (f := 21) (args := #[ptr w.heap.size, ptr (w.heap.size + 1), ptr (w.heap.size + 1 + 1)]) (by simp) (by simp [go_sem]) ?_
    refine (catch_fault _ _ _ _ D5.out.b0 D5.out.b1 D5.out.b2).mono ?_
    rintro e u' w5 ⟨rfl, rfl, k0, k1, k2, hf5⟩
    have z0 := k0.get (i := 0) rfl
    have z1 := k0.get (i := 1) rfl
    have z2 := k0.get (i := 2) rfl
    have z3 := k0.get (i := 3) rfl
    have y1 := k1.get (i := 0) rfl
    have y2 := k2.get (i := 0) rfl
    refine ⟨.tuple #[.agg #[.int .i64 0, .slice none 0 0, .slice none 0 0, .slice none 0 0], .int .i64 c.1, .int .i64 c.2], ?_, Decd.no HWO.out rfl, D5.out.low.trans (hf5.below fun k hk => ⟨by omega, by omega⟩)⟩
    simp [results, Try.results6, go_sem, z0, z1, z2, z3, y1, y2]
end Go.Proofs.Ytdmnoeooljofcaa
