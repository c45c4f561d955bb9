import Derived.Test.YtmlhcncagdfjfaaGreatRows
import Derived.Test.YtmlhcncagdfjfaaGreatOpnt
import Derived.Test.YtmlhcncagdfjfaaGreatOpns
import Derived.Test.YtmlhcncagdfjfaaGreatSoC
import Derived.WalkKit
import Derived.ProofKit
import Derived.OpenShut
import Derived.ChangeOld
import Derived.SizedLaws
import Derived.Carry
set_option maxRecDepth 100000
namespace Go.Proofs.YtmlhcncagdfjfaaGreat
open Go.ChangeShapes Go.WideShapes Go.ChangeAt Go.RowKit
theorem jJ : laidOutB Tryz.prog = true := by kernel_rfl
theorem nw : ownKnob Tryz.prog.godebug = none := by kernel_rfl
theorem kN (os : Os) (started : os.Started) (H : Type) (enc : TypeId × Value → H) :
    ReturnsInHanded {} Tryz.checked os 6 .any (Rows.deriveSoundSpec.pre6 enc Tryz.prog Tryz.f6 Rows.deriveSoundRow.domain false) (Rows.deriveSoundSpec.post enc Tryz.prog Tryz.f6 false true false false) := by
 refine returnsInHanded_of_change_sized (C := Tryz.checked) nw started (by kernel_rfl) Tryz.func6
  (ChangeSpec.witness6 (enc := enc) (C := Tryz.checked) false ⟨#[], #[.agg #[.int .i64 0, .slice none 0 0, .slice none 0 0, .slice none 0 0], .slice none 0 0, .slice none 0 0], []⟩ 8 (by kernel_rfl) (by kernel_rfl) (by kernel_rfl) (by kernel_rfl)) ?_
 intro W Ae args ds gs An Ac hW _ Af _
 have Ab : (DataW.weightsEach Tryz.prog (Tryz.f6.params.toList ++ Rows.deriveSoundSpec.plain.varTypes Tryz.prog) (ds ++ gs)).all (· ≤ reachBytes) = true := Af
 have Aa : ∀ (j : Nat) t v, Tryz.f6.params[j]? = some t → args[j]? = some v → Value.okWide Tryz.prog W .any Ae t v := Ac
 have hW' := hW
 obtain ⟨p, q, Ad, hV, rfl, _, _⟩ := hW'
 have hA : DataW.TrodAll enc Tryz.prog W 0 (fun _ => true) true Tryz.f6.params.toList args.toList ds p := Ad
 rw [Tryz.params6] at hA Aa Ab
 obtain ⟨v0, At, d0, AA, p0, q0, Aq, rfl, rfl, h0, r0⟩ := trodAll_cons hA
 obtain ⟨v1, AD, d1, AC, p1, q1, rfl, rfl, rfl, h1, r1⟩ := trodAll_cons r0
 obtain ⟨v2, Az, d2, Ax, p2, q2, rfl, rfl, rfl, h2, r2⟩ := trodAll_cons r1
 obtain ⟨rfl, rfl, rfl⟩ := trodAll_nil r2
 obtain rfl : args = #[v0, v1, v2] := by cases args; simp_all
 obtain ⟨rfl, rfl⟩ := trodVars_none hV
 have k0 := h0
 have Al : ∀ x ∈ p0, x.block < W.heap.size := by obtain ⟨m, hm⟩ := k0; exact DataW.trod_lt m _ _ _ hm
 obtain ⟨T0, Ar, AF, Aw, As, Au, AE, rfl, Ak⟩ := sP (Aa 0 25 v0 rfl rfl) h0 Ab (j := 0) rfl rfl
 have k1 := h1
 have Ai : ∀ x ∈ p1, x.block < W.heap.size := by obtain ⟨m, hm⟩ := k1; exact DataW.trod_lt m _ _ _ hm
 obtain ⟨L1, AB, Ay, rfl, Ah⟩ := vB (Aa 1 26 v1 rfl rfl) h1 Ab (j := 1) rfl rfl
 have k2 := h2
 have Ao : ∀ x ∈ p2, x.block < W.heap.size := by obtain ⟨m, hm⟩ := k2; exact DataW.trod_lt m _ _ _ hm
 obtain ⟨P2, Av, Ap, rfl, Am, Aj⟩ := tP (Aa 2 27 v2 rfl rfl) h2 Ab (j := 2) rfl rfl
 clear Ad Ac
 have Ag := De.sound_law (lc := Ap) Ak Ah Am Aj
 refine Ag.mono fun e W' ⟨he, bel⟩ => ?_
 subst he
 exact ⟨_, rfl, _, _, _, [], _, [], hW, trodAll_mk1 (shut_bool Tryz.underlying4 _), (trodAll_cons_mk (Below.trod jJ (by kernel_rfl) (of_decide_eq_true (by kernel_rfl)) k0 bel Al) (trodAll_cons_mk (Below.trod jJ (by kernel_rfl) (of_decide_eq_true (by kernel_rfl)) k1 bel Ai) (trodAll_cons_mk (Below.trod jJ (by kernel_rfl) (of_decide_eq_true (by kernel_rfl)) k2 bel Ao) trodAll_mk0))), rfl, bel.frame _, fun h => by cases h⟩
theorem mB : Rows.deriveSoundRow.holds Tryz.pinned (OpenSpec.ofChange Rows.deriveSoundSpec) :=
 OpenClaim.holds_of_wide 6 Tryz.f6 rfl rfl rfl rfl rfl rfl rfl ⟨rfl, rfl, rfl, rfl, rfl⟩ rfl rfl rfl rfl rfl (by kernel_rfl) Tryz.func6 (by kernel_rfl)
  (of_decide_eq_true (by kernel_rfl)) (by unfold Func.isWrapper; first | (rw [if_pos (by decide +kernel)]; kernel_rfl) | (rw [if_neg (by decide +kernel)]; exact ⟨rfl, rfl⟩))
  (fun os started H enc _ => kN os started H enc)
theorem deriveSound_holds : Rows.DeriveSoundSaid := mB
#print axioms deriveSound_holds
end Go.Proofs.YtmlhcncagdfjfaaGreat
