/- run: lay, then work. -/
import Derived.Test.YtcobmbclhhimjaaGreatLay
import Derived.Test.YtcobmbclhhimjaaGreatFsD
namespace Go.Proofs.YtcobmbclhhimjaaGreat.Fa
open Go.RowKit

set_option maxRecDepth 100000 in
set_option maxHeartbeats 3200000 in
theorem run_any {w : World} {T : Th} {F : List Int} {n : Nat} {fa ra ba ea : Option Addr} {fc rc bc ec : Nat} {Inv : Es → Prop} (h : TA w.heap.size w T fa fc ra rc ba bc) (hF : Ints w.heap.size w F (.slice ea F.length ec)) (hp : Pf T F n) (hso : StartOk T F n) (hi : Inv (layE T F n)) (hstep : ∀ e, Inv e → Tok n e → e.tk < e.td.length → Inv (stepE T F e)) :
    Calls Tryz.prog 30 #[tv T fa fc ra rc ba bc, .slice ea F.length ec] w fun o w' => ∃ A S N e', o = .returned (ptr A.K) ∧ w.heap.size ≤ N ∧ Eg N S A T F n e' w' ∧ Inv e' ∧ e'.tk = e'.td.length ∧ Below w.heap.size w w' := by
  have hB1 := below_new w (.cells #[.int .i64 T.lits, .slice fa T.foes.length fc, .slice ra T.rules.length rc, .slice ba T.beats.length bc] 25)
  have hX1 : Fx w.heap.size 25 [.int .i64 T.lits, .slice fa T.foes.length fc, .slice ra T.rules.length rc, .slice ba T.beats.length bc] (w.alloc (.cells #[.int .i64 T.lits, .slice fa T.foes.length fc, .slice ra T.rules.length rc, .slice ba T.beats.length bc] 25)) := heap_alloc_new w _
  have CL := hide (lay_any (TR.go hB1 h) (Ints.go hB1 hF) hp hso)
  have HB := hide hB1
  have HI := hide hi
  have HS := hide hstep
  have t0 := hX1.get (i := 0) rfl
  have t1 := hX1.get (i := 1) rfl
  have t2 := hX1.get (i := 2) rfl
  have t3 := hX1.get (i := 3) rfl
  clear h hF hp hso hi hstep hB1 hX1
  go_enter Tryz.func30, Tryz.ntmps30
  go_wp2_with (first | (go_at_call 48; refine CL.out.mono ?_; rintro _ w1 ⟨A, S, rfl, he, hb⟩; have HE := hide he; have HB1 := hide hb; have CW := hide (work_any he HI.out HS.out); clear he hb) | (go_at_call 49; refine CW.out.mono ?_; rintro _ w2 ⟨rfl, e', hi2, htk, he2, hf2⟩; have HE2 := hide he2; have HI2 := hide hi2; have HTK := hide htk; have HF2 := hide hf2; clear he2 hi2 htk hf2))
  go_ret
  obtain ⟨tv1, h1⟩ := HE.out
  have hbl := HF2.out.below (n := (w.alloc (.cells #[.int .i64 T.lits, .slice fa T.foes.length fc, .slice ra T.rules.length rc, .slice ba T.beats.length bc] 25)).heap.size) fun k hk => ⟨(h1.kp k (h1.ro.n0 k hk)).1, fun hn => hn (h1.ro.n0 k hk)⟩
  exact ⟨A, S, _, e', rfl, HB.out.size, HE2.out, HI2.out, HTK.out, HB.out.trans ((HB1.out.trans hbl).mono HB.out.size)⟩
end Go.Proofs.YtcobmbclhhimjaaGreat.Fa
