import Derived.Test.YtmlhcncagdfjfaaGreatRows
import Derived.Test.YtmlhcncagdfjfaaGreatOpns
import Derived.Test.YtmlhcncagdfjfaaGreatSaB
import Derived.WalkKit
import Derived.ProofKit
import Derived.OpenShut
import Derived.ChangeOld
import Derived.SizedLaws
import Derived.Carry
set_option maxRecDepth 100000
namespace Go.Proofs.YtmlhcncagdfjfaaGreat
open Go.ChangeShapes Go.WideShapes Go.ChangeAt Go.RowKit
theorem nK : laidOutB Tryz.prog = true := by kernel_rfl
theorem nQ : ownKnob Tryz.prog.godebug = none := by kernel_rfl
theorem lL (os : Os) (started : os.Started) (H : Type) (enc : TypeId × Value → H) :
    ReturnsInHanded {} Tryz.checked os 5 .any (Rows.deriveSameSpec.pre6 enc Tryz.prog Tryz.f5 Rows.deriveSameRow.domain false) (Rows.deriveSameSpec.post enc Tryz.prog Tryz.f5 false true false false) := by
 refine returnsInHanded_of_change_sized (C := Tryz.checked) nQ started (by kernel_rfl) Tryz.func5
  (ChangeSpec.witness6 (enc := enc) (C := Tryz.checked) false ⟨#[], #[.agg #[.int .i64 0, .int .i64 0, .int .i64 0, .int .i64 0, .slice none 0 0], .agg #[.int .i64 0, .int .i64 0, .int .i64 0, .int .i64 0, .slice none 0 0]], []⟩ 8 (by kernel_rfl) (by kernel_rfl) (by kernel_rfl) (by kernel_rfl)) ?_
 intro W Ae args ds gs Ai Ab hW _ Af _
 have Ac : (DataW.weightsEach Tryz.prog (Tryz.f5.params.toList ++ Rows.deriveSameSpec.plain.varTypes Tryz.prog) (ds ++ gs)).all (· ≤ reachBytes) = true := Af
 have Aa : ∀ (j : Nat) t v, Tryz.f5.params[j]? = some t → args[j]? = some v → Value.okWide Tryz.prog W .any Ae t v := Ab
 have hW' := hW
 obtain ⟨p, q, Ad, hV, rfl, _, _⟩ := hW'
 have hA : DataW.TrodAll enc Tryz.prog W 0 (fun _ => true) true Tryz.f5.params.toList args.toList ds p := Ad
 rw [Tryz.params5] at hA Aa Ac
 obtain ⟨v0, Av, d0, Aq, p0, q0, Ap, rfl, rfl, h0, r0⟩ := trodAll_cons hA
 obtain ⟨v1, Ay, d1, As, p1, q1, rfl, rfl, rfl, h1, r1⟩ := trodAll_cons r0
 obtain ⟨rfl, rfl, rfl⟩ := trodAll_nil r1
 obtain rfl : args = #[v0, v1] := by cases args; simp_all
 obtain ⟨rfl, rfl⟩ := trodVars_none hV
 have k0 := h0
 have Ah : ∀ x ∈ p0, x.block < W.heap.size := by obtain ⟨m, hm⟩ := k0; exact DataW.trod_lt m _ _ _ hm
 obtain ⟨s0, Aw, Al, rfl, Ao, Aj, AA, Ax⟩ := pL (Aa 0 32 v0 rfl rfl) h0 Ac (j := 0) rfl rfl
 have k1 := h1
 have Ag : ∀ x ∈ p1, x.block < W.heap.size := by obtain ⟨m, hm⟩ := k1; exact DataW.trod_lt m _ _ _ hm
 obtain ⟨s1, Az, Ak, rfl, An, Au, At, Ar⟩ := pL (Aa 1 32 v1 rfl rfl) h1 Ac (j := 1) rfl rfl
 clear Ad Ab
 have Am := De.same_law (t := s0.tag) (q := s0.lit) (h := s0.how) (r := s0.rule) (ch := s0.ch) (t2 := s1.tag) (q2 := s1.lit) (h2 := s1.how) (r2 := s1.rule) (dh := s1.ch) (cc := Al) (cd := Ak) Ao An Aj
 refine Am.mono fun e W' ⟨he, bel⟩ => ?_
 subst he
 exact ⟨_, rfl, _, _, _, [], _, [], hW, trodAll_mk1 (shut_bool Tryz.underlying4 _), (trodAll_cons_mk (Below.trod nK (by kernel_rfl) (of_decide_eq_true (by kernel_rfl)) k0 bel Ah) (trodAll_cons_mk (Below.trod nK (by kernel_rfl) (of_decide_eq_true (by kernel_rfl)) k1 bel Ag) trodAll_mk0)), rfl, bel.frame _, fun h => by cases h⟩
theorem nk : Rows.deriveSameRow.holds Tryz.pinned (OpenSpec.ofChange Rows.deriveSameSpec) :=
 OpenClaim.holds_of_wide 5 Tryz.f5 rfl rfl rfl rfl rfl rfl rfl ⟨rfl, rfl, rfl, rfl, rfl⟩ rfl rfl rfl rfl rfl (by kernel_rfl) Tryz.func5 (by kernel_rfl)
  (of_decide_eq_true (by kernel_rfl)) (by unfold Func.isWrapper; first | (rw [if_pos (by decide +kernel)]; kernel_rfl) | (rw [if_neg (by decide +kernel)]; exact ⟨rfl, rfl⟩))
  (fun os started H enc _ => lL os started H enc)
theorem deriveSame_holds : Rows.DeriveSameSaid := nk
#print axioms deriveSame_holds
end Go.Proofs.YtmlhcncagdfjfaaGreat
