/- Decode. -/
import Derived.Test.YtagpdceaononkaaWStL
import Derived.Recover
import Derived.Laws.Pointers
namespace Go.Proofs.Ytagpdceaononkaa
open Go.RowKit

set_option maxRecDepth 100000 in
set_option maxHeartbeats 1600000 in
theorem faultOf_any (c p : Int) (w : World) : Calls Try.prog 28 #[.iface 64 (.agg #[.int .i64 c, .int .i64 p])] w fun e w' => e = .returned (.agg #[.int .i64 c, .int .i64 p]) ∧ Below w.heap.size w w' := by
  have hta : ∀ w : World, (Instr.typeAssert (.iface 64 (.agg #[.int .i64 c, .int .i64 p])) 20 64 true).run Try.prog w = .ok (.tuple #[.agg #[.int .i64 c, .int .i64 p], .bool true]) w := fun w => by kernel_rfl
  go_enter Try.func28, Try.ntmps28
  go_wp2_with fail
  simp [bodyPost, results, Try.results28, go_sem]
  exact ((Below.refl _ w).alloc (Nat.le_refl _) _).alloc (by simp) _
set_option maxRecDepth 100000 in
set_option maxHeartbeats 1600000 in
theorem catch_idle (a b c : Value) (w : World) : CallsD Try.prog 27 #[a, b, c] .returning w fun e u' w' => e = .returned (.tuple #[]) ∧ u' = .returning ∧ w' = w := by
  refine callsD_of_wpS Try.func27 rfl fun c₀ cs hu => ?_
  apply wpS_seq
  apply wpS_region
  simp [wpOpsS, go_sem, recoverD, hu, Try.ntmps27, Exit.thenS]
  apply wpS_of_wp
  go_wp2_with fail
  cases c₀
  simp_all [bodyPostS, results, Try.results27]
theorem three_sets {w2 : World} {q0 q1 q2 : Nat} {a u v y0 y4 y5 : Value} (K0 : Fx q0 22 [y0] w2) (K1 : Fx q1 24 [y4] w2) (K2 : Fx q2 3 [y5] w2) :
    Fx q0 22 [a] (((w2.setCell ⟨q0, 0, none⟩ a).setCell ⟨q1, 0, none⟩ u).setCell ⟨q2, 0, none⟩ v) ∧ Fx q1 24 [u] (((w2.setCell ⟨q0, 0, none⟩ a).setCell ⟨q1, 0, none⟩ u).setCell ⟨q2, 0, none⟩ v) ∧ Fx q2 3 [v] (((w2.setCell ⟨q0, 0, none⟩ a).setCell ⟨q1, 0, none⟩ u).setCell ⟨q2, 0, none⟩ v) ∧ Fr (fun k => k = q0 ∨ k = q1 ∨ k = q2) w2 (((w2.setCell ⟨q0, 0, none⟩ a).setCell ⟨q1, 0, none⟩ u).setCell ⟨q2, 0, none⟩ v) := by
  have n01 : q1 ≠ q0 := fx_ne K1 K0 (by decide)
  have n02 : q2 ≠ q0 := fx_ne K2 K0 (by decide)
  have n12 : q2 ≠ q1 := fx_ne K2 K1 (by decide)
  have A0 := K0.set 0 a
  have A1 := K1.keep (other_set (i := 0) (v := a) n01)
  have A2 := K2.keep (other_set (i := 0) (v := a) n02)
  have B2 := A2.keep (other_set (i := 0) (v := u) n12)
  refine ⟨?_, ?_, B2.set 0 _, (((Fr.refl _ _).trans (.setCell ⟨q0, 0, none⟩ _ (.inl rfl))).trans (.setCell ⟨q1, 0, none⟩ _ (.inr (.inl rfl)))).trans (.setCell ⟨q2, 0, none⟩ _ (.inr (.inr rfl)))⟩
  · exact (A0.keep (other_set (Ne.symm n01))).keep (other_set (Ne.symm n02))
  · exact (A1.set 0 _).keep (other_set (Ne.symm n12))
set_option maxRecDepth 100000 in
set_option maxHeartbeats 3200000 in
theorem catch_fault {q0 q1 q2 : Nat} (e p : Int) (older : List PanicEntry) (w : World) {y0 y4 y5 : Value} (h0 : Fx q0 22 [y0] w) (h1 : Fx q1 24 [y4] w) (h2 : Fx q2 3 [y5] w) :
    CallsD Try.prog 27 #[ptr q0, ptr q1, ptr q2] (.panicking (flt e p :: older)) w fun r u' w' =>
      r = .returned (.tuple #[]) ∧ u' = .panicking ({ v := .iface 64 (.agg #[.int .i64 e, .int .i64 p]), recovered := true } :: older) ∧
      Fx q0 22 [.slice none 0 0] w' ∧ Fx q1 24 [.int .i64 e] w' ∧ Fx q2 3 [.int .i64 p] w' ∧ Fr (fun k => k = q0 ∨ k = q1 ∨ k = q2) w w' := by
  have H0 := hide h0
  have H1 := hide h1
  have H2 := hide h2
  have CF := hide (faultOf_any e p w)
  clear h0 h1 h2
  refine callsD_of_wpS Try.func27 rfl fun c₀ cs hu => ?_
  apply wpS_seq
  apply wpS_region
  have hrep2 : (Array.replicate 11 undef : Array Value) = #[undef, undef, undef, undef, undef, undef, undef, undef, undef, undef, undef] := rfl
  simp [wpOpsS, go_sem, recoverD, hu, Try.ntmps27, Exit.thenS, hrep2]
  clear hrep2
  apply wpS_of_wp
  go_wp2_with fail
  refine CF.out.mono ?_
  rintro _ w1 ⟨rfl, hb⟩
  have hA := below_new w1 (.cells #[.int .i64 e, .int .i64 p] 64)
  have hbb : Below w.heap.size w (w1.alloc (.cells #[.int .i64 e, .int .i64 p] 64)) := hb.trans (hA.mono hb.size)
  have HX := hide (heap_alloc_new w1 (.cells #[.int .i64 e, .int .i64 p] 64))
  have HF : Hid (Fr (fun k => k = q0 ∨ k = q1 ∨ k = q2) w (w1.alloc (.cells #[.int .i64 e, .int .i64 p] 64))) := hide (.of_below hbb)
  have K0 := hide (H0.out.keep (hbb.block _ H0.out.lt))
  have K1 := hide (H1.out.keep (hbb.block _ H1.out.lt))
  have K2 := hide (H2.out.keep (hbb.block _ H2.out.lt))
  clear hb hA hbb CF H0 H1 H2
  go_upto_region 3 with fail
  generalize w1.alloc (.cells #[.int .i64 e, .int .i64 p] 64) = w2 at *
  generalize w1.heap.size = fb at *
  have f0 := cell_of_row w2 fb 0 _ _ _ HX.out
  have f1 := cell_of_row w2 fb 1 _ _ _ HX.out
  simp only [List.getElem?_toArray, List.getElem?_cons_zero, List.getElem?_cons_succ] at f0 f1
  have z0 : w2.cell? ⟨q0, 0, none⟩ = some y0 := K0.out.get rfl
  have zf := K0.out.frz
  obtain ⟨R0, R1, R2, RF⟩ := three_sets (a := .slice none 0 0) (u := .int .i64 e) (v := .int .i64 p) K0.out K1.out K2.out
  have HR0 := hide R0
  have HR1 := hide R1
  have HR2 := hide R2
  have HRF := hide (HF.out.trans RF)
  have m0 : ¬ fb = q0 := fx_ne (T := 64) (vs := [.int .i64 e, .int .i64 p]) HX.out K0.out (by decide)
  have m1 : ¬ fb = q1 := fx_ne (T := 64) (vs := [.int .i64 e, .int .i64 p]) HX.out K1.out (by decide)
  have m2 : ¬ fb = q2 := fx_ne (T := 64) (vs := [.int .i64 e, .int .i64 p]) HX.out K2.out (by decide)
  have m0' : ¬ q0 = fb := fun h => m0 h.symm
  have m1' : ¬ q1 = fb := fun h => m1 h.symm
  have m2' : ¬ q2 = fb := fun h => m2 h.symm
  have n01 : ¬ q1 = q0 := fx_ne K1.out K0.out (by decide)
  have n02 : ¬ q2 = q0 := fx_ne K2.out K0.out (by decide)
  have n12 : ¬ q2 = q1 := fx_ne K2.out K1.out (by decide)
  have n01' : ¬ q0 = q1 := fun h => n01 h.symm
  have n02' : ¬ q0 = q2 := fun h => n02 h.symm
  have n12' : ¬ q1 = q2 := fun h => n12 h.symm
  have y4c : w2.cell? ⟨q1, 0, none⟩ = some y4 := K1.out.get rfl
  have y4f := K1.out.frz 0
  have y5c : w2.cell? ⟨q2, 0, none⟩ = some y5 := K2.out.get rfl
  have y5f := K2.out.frz 0
  clear R0 R1 R2 RF K0 K1 K2 HX HF
  go_region
  go_wp2_with fail
  exact ⟨rfl, _, rfl, .tuple #[], by simp [results, Try.results27], rfl, rfl, HR0.out.drew, HR1.out.drew, HR2.out.drew, HRF.out.drew⟩
/-- What Decode answers. -/
def Decd (zs : List Int) (w : World) (e : Ending) (w' : World) : Prop := match wholeM zs with
  | .ok l => ∃ a c, e = .returned (.tuple #[.slice a l.length c, .int .i64 0, .int .i64 zs.length]) ∧ Gs w.heap.size l (.slice a l.length c) w'
  | .error c => e = .returned (.tuple #[.slice none 0 0, .int .i64 c.1, .int .i64 c.2])
theorem Decd.yes {zs : List Int} {w w' : World} {e : Ending} {l : List StM} {a : Option Addr} {c : Nat} (h : wholeM zs = .ok l) (he : e = .returned (.tuple #[.slice a l.length c, .int .i64 0, .int .i64 zs.length])) (hz : Gs w.heap.size l (.slice a l.length c) w') : Decd zs w e w' := by unfold Decd; rw [h]; exact ⟨a, c, he, hz⟩
theorem Decd.no {zs : List Int} {w w' : World} {e : Ending} {c : Int × Int} (h : wholeM zs = .error c) (he : e = .returned (.tuple #[.slice none 0 0, .int .i64 c.1, .int .i64 c.2])) : Decd zs w e w' := by unfold Decd; rw [h]; exact he
theorem Decd.is {zs : List Int} {w w' : World} {e : Ending} {l : List StM} (h : wholeM zs = .ok l) (hd : Decd zs w e w') : ∃ a c, e = .returned (.tuple #[.slice a l.length c, .int .i64 0, .int .i64 zs.length]) ∧ Gs w.heap.size l (.slice a l.length c) w' := by unfold Decd at hd; rw [h] at hd; exact hd
theorem Decd.err {zs : List Int} {w w' : World} {e : Ending} {c p : Int} (h : wholeM zs = .error (c, p)) (hd : Decd zs w e w') : e = .returned (.tuple #[.slice none 0 0, .int .i64 c, .int .i64 p]) := by unfold Decd at hd; rw [h] at hd; exact hd
structure D4 (w W : World) (v0 v4 v5 : Value) : Prop where
  low : Below w.heap.size w W
  b0 : Fx w.heap.size 22 [v0] W
  b1 : Fx (w.heap.size + 1) 24 [v4] W
  b2 : Fx (w.heap.size + 1 + 1) 3 [v5] W
theorem D4.fr {w W X : World} {v0 v4 v5 : Value} (h : D4 w W v0 v4 v5) (hf : Fr (fun k => k = w.heap.size + 1 + 1 + 1) W X) : D4 w X v0 v4 v5 :=
  ⟨h.low.trans (hf.below fun k hk => ⟨by have := h.b0.lt; omega, by omega⟩), h.b0.keep (hf.block _ h.b0.lt (by omega)), h.b1.keep (hf.block _ h.b1.lt (by omega)), h.b2.keep (hf.block _ h.b2.lt (by omega))⟩
set_option maxRecDepth 100000 in
set_option maxHeartbeats 6400000 in
theorem decode_any {w : World} {ba : Option Addr} {bc : Nat} {zs : List Int} (hrow : Row w ba zs) (hcap : zs.length ≤ bc) (hnil : ba = none → bc = 0) (hlen : zs.length ≤ 140737488351232) :
    Calls Try.prog 18 #[.slice ba zs.length bc] w fun e w' => Decd zs w e w' ∧ Below w.heap.size w w' := by
  have hmf : ∀ (fn : Fn) (first cap : Array Value) (w : World), (Instr.makeFunc fn first cap).run Try.prog w = .ok (.func fn first cap) w := fun _ _ _ _ => rfl
  obtain ⟨hb, q0, q1, q2, q3⟩ := four w (.cells #[.slice none 0 0] 22) (.cells #[.int .i64 0] 24) (.cells #[.int .i64 0] 3) (.cells #[.slice ba zs.length bc, .int .i64 0] 68)
  have HD : Hid (D4 w ((((w.alloc (.cells #[.slice none 0 0] 22)).alloc (.cells #[.int .i64 0] 24)).alloc (.cells #[.int .i64 0] 3)).alloc (.cells #[.slice ba zs.length bc, .int .i64 0] 68)) (.slice none 0 0) (.int .i64 0) (.int .i64 0)) := hide ⟨hb, q0, q1, q2⟩
  have HRd : Hid (Rd (w.heap.size + 1 + 1 + 1) ba bc zs 0 ((((w.alloc (.cells #[.slice none 0 0] 22)).alloc (.cells #[.int .i64 0] 24)).alloc (.cells #[.int .i64 0] 3)).alloc (.cells #[.slice ba zs.length bc, .int .i64 0] 68))) := hide ⟨q3, Row.below hrow hb (Nat.le_refl _), fun b off e hz => by
    obtain ⟨b', off', e', hc⟩ := hrow.cells hz
    rw [e] at e'
    cases e'
    have := Row.lt hc hz
    omega, hcap, hnil, hlen, Nat.zero_le _⟩
  clear hb q0 q1 q2 q3 hrow
  go_enter_defers Try.func18, Try.ntmps18
  go_upto_region 3 with fail
  generalize ((((w.alloc (.cells #[.slice none 0 0] 22)).alloc (.cells #[.int .i64 0] 24)).alloc (.cells #[.int .i64 0] 3)).alloc (.cells #[.slice ba zs.length bc, .int .i64 0] 68)) = W at *
  have CW := hide (whole_any HRd.out)
  go_wp2_with fail
  refine CW.out.mono ?_
  rintro e X ⟨hf, hE⟩
  have D5 := hide (HD.out.fr hf)
  have hWX : w.heap.size ≤ X.heap.size := D5.out.low.size
  have hWW : w.heap.size + 1 + 1 < W.heap.size := HD.out.b2.lt
  cases hwo : wholeM zs with
  | ok l =>
    rw [hwo] at hE
    obtain ⟨v, rfl, hz⟩ := hE
    obtain ⟨a, c, rfl⟩ := hz.form
    have HZ := hide hz
    have HWO := hide hwo
    have z0 : X.cell? ⟨w.heap.size, 0, none⟩ = some (.slice none 0 0) := D5.out.b0.get rfl
    have zf := D5.out.b0.frz
    have y1 : X.cell? ⟨w.heap.size + 1, 0, none⟩ = some (.int .i64 0) := D5.out.b1.get rfl
    have y1f := D5.out.b1.frz
    have y2 : X.cell? ⟨w.heap.size + 1 + 1, 0, none⟩ = some (.int .i64 0) := D5.out.b2.get rfl
    have y2f := D5.out.b2.frz
    clear hf hwo hz CW HD HRd
    have HSX := hide (three_sets (a := .slice a l.length c) (u := .int .i64 0) (v := .int .i64 zs.length) D5.out.b0 D5.out.b1 D5.out.b2)
    have hXl : w.heap.size + 1 + 1 < X.heap.size := D5.out.b2.lt
    go_wp2_with fail
    generalize (((X.setCell ⟨w.heap.size, 0, none⟩ (.slice a l.length c)).setCell ⟨w.heap.size + 1, 0, none⟩ (.int .i64 0)).setCell ⟨w.heap.size + 1 + 1, 0, none⟩ (.int .i64 zs.length)) = XF at *
    obtain ⟨k0, k1, k2, hf5⟩ := HSX.out
    refine leaves_cons (f := 27) (args := #[ptr w.heap.size, ptr (w.heap.size + 1), ptr (w.heap.size + 1 + 1)]) (by simp) (by simp [go_sem]) ?_
    refine (catch_idle _ _ _ _).mono ?_
    rintro e u' w5 ⟨rfl, rfl, rfl⟩
    have z0 := k0.get (i := 0) rfl
    have y1 := k1.get (i := 0) rfl
    have y2 := k2.get (i := 0) rfl
    refine ⟨.tuple #[.slice a l.length c, .int .i64 0, .int .i64 zs.length], ?_, Decd.yes HWO.out rfl (Gs.down (HZ.out.keep (fun g hg hl => hf5.block g hl (by omega)) hf5.size) (by omega)), D5.out.low.trans (hf5.below fun k hk => ⟨by omega, by omega⟩)⟩
    simp [results, Try.results18, go_sem, z0, y1, y2]
  | error c =>
    rw [hwo] at hE
    have hE' : e = .panicked [flt c.1 c.2] := hE
    subst hE'
    have HWO := hide hwo
    clear hf hwo hE CW HD HRd
    go_wp2_with fail
    refine leaves_cons (f := 27) (args := #[ptr w.heap.size, ptr (w.heap.size + 1), ptr (w.heap.size + 1 + 1)]) (by simp) (by simp [go_sem]) ?_
    refine (catch_fault _ _ _ _ D5.out.b0 D5.out.b1 D5.out.b2).mono ?_
    rintro e u' w5 ⟨rfl, rfl, k0, k1, k2, hf5⟩
    have z0 := k0.get (i := 0) rfl
    have y1 := k1.get (i := 0) rfl
    have y2 := k2.get (i := 0) rfl
    refine ⟨.tuple #[.slice none 0 0, .int .i64 c.1, .int .i64 c.2], ?_, Decd.no HWO.out rfl, D5.out.low.trans (hf5.below fun k hk => ⟨by omega, by omega⟩)⟩
    simp [results, Try.results18, go_sem, z0, y1, y2]
end Go.Proofs.Ytagpdceaononkaa
