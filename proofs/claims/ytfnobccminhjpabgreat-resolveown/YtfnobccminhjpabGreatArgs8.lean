/- Members that are named; unlike ones; arguments. -/
import Derived.Test.YtfnobccminhjpabGreatClos8
namespace Go.Proofs.YtfnobccminhjpabGreat
open Go.RowKit Go.Shelf Go.Maps Go.WideMaps

section
variable {R : Nat} {S : StatM} {st : St9} {mp : Mp8} {it : Nat} {seen : List Bytes} {w : World}
set_option maxRecDepth 100000 in
set_option maxHeartbeats 1600000 in
theorem findMember_any (h : Res R S st mp it seen w) (s : Bytes) (hs : s.length ≤ maxLen) : Calls Tryz.prog 123 #[ptr R, str s] w fun e w' => Qd w it vN (findMemberM S.ctx s) e w' := by
  have CN := hide (isName_any ⟨s.toArray⟩ w)
  have CW := hide (fun b c => want_any h.c9 b c)
  have CF := hide (find_any h.c9 h.mM s hs 82)
  have c11 := h.c11
  obtain ⟨o, ho⟩ : ∃ o, findMemberM S.ctx s = o := ⟨_, rfl⟩
  rw [ho]
  have HO := hide ho
  unfold findMemberM at HO
  unfold str at *
  clear h ho
  go_enter Tryz.func123, Tryz.ntmps123
  go_wp2_with (go_at_call 138; refine CN.out.mono ?_; rintro _ w1 ⟨rfl, hw1⟩; subst w1)
  refine (CW.out _ _).mono ?_
  intro e w1 hE
  rcases hE.no with ⟨c1, h3, rfl, hw⟩ | ⟨_, h3, rfl, hw⟩
  · subst w1
    exact on_panic rfl (Qd.bad (ex_no HO.out h3))
  subst w1
  have HO2 := hide (ex_go HO.out h3)
  clear hE h3 HO
  go_wp2_with fail
  refine CF.out.mono ?_
  intro e w1 hE
  rcases hE.no with ⟨c1, h3, rfl, hw⟩ | ⟨m, h3, rfl, hw⟩
  · subst w1
    exact on_panic rfl (Qd.bad (h3.symm.trans HO2.out))
  subst w1
  go_wp2_with fail
  go_ret
  exact Qd.ok (h3.symm.trans HO2.out)
end

/-- All that a rule's parts are asked with. -/
structure Rx (W0 : World) (R : Nat) (S : StatM) (st : St9) (mp : Mp8) (it : Nat) (seen : List Bytes) (Z : Nat → Prop) (V M rb vb : Nat) (v : Scope) (X : World) : Prop where
  resW : Res R S st mp it seen W0
  bel : Below W0.heap.size W0 X
  low : ∀ k, Z k → W0.heap.size ≤ k
  scp : ∃ nv kv, Scp Z V M nv kv v X
  clo : Clo Z R V rb vb it X
  new : ∀ g, X.heap.size ≤ g → Z g
section
variable {W0 : World} {R : Nat} {S : StatM} {st : St9} {mp : Mp8} {it : Nat} {seen : List Bytes} {Z : Nat → Prop} {V M rb vb : Nat} {v : Scope} {X X' : World}
theorem Rx.res (h : Rx W0 R S st mp it seen Z V M rb vb v X) : Res R S st mp it seen X := h.resW.below h.bel
theorem Rx.fr (h : Rx W0 R S st mp it seen Z V M rb vb v X) {v' : Scope} (hf : Fr Z X X') (hs : ∃ nv kv, Scp Z V M nv kv v' X') : Rx W0 R S st mp it seen Z V M rb vb v' X' :=
  ⟨h.resW, h.bel.trans (hf.below fun k hk => ⟨Nat.lt_of_lt_of_le hk h.bel.size, fun hz => by have := h.low k hz; omega⟩), h.low, hs, h.clo.fr hf, fun g hg => h.new g (Nat.le_trans hf.size hg)⟩
theorem Rx.below (h : Rx W0 R S st mp it seen Z V M rb vb v X) (hb : Below X.heap.size X X') : Rx W0 R S st mp it seen Z V M rb vb v X' := by
  obtain ⟨nv, kv, hs⟩ := h.scp
  exact h.fr (.of_below hb) ⟨nv, kv, hs.below hb⟩
theorem Rx.at0 (h : Rx W0 R S st mp it seen Z V M rb vb v X) : ∀ g, g < R → X.heap[g]? = W0.heap[g]? := fun g hg => h.bel.block g (by have := loc_lt h.resW.box; omega)

set_option maxRecDepth 100000 in
set_option maxHeartbeats 1600000 in
theorem unlike_any (h : Rx W0 R S st mp it seen Z V M rb vb v X) (hl : v.length + 1 ≤ 4096) (s : Bytes) (hs : s.length ≤ maxLen) : Calls Tryz.prog 62 #[ptr R, str s, ptr V] X fun e X' => Eb Z V M it X (unlikeM S.ctx v s) e X' := by
  have CV := hide (isVar_any ⟨s.toArray⟩ X)
  have CM := hide (findMember_any h.res s hs)
  obtain ⟨nv, kv, hS⟩ := h.scp
  have CS := hide (stand_any hS h.new hl s hs)
  have HS := hide hS
  obtain ⟨o, ho⟩ : ∃ o, unlikeM S.ctx v s = o := ⟨_, rfl⟩
  rw [ho]
  have HO := hide ho
  unfold unlikeM at HO
  unfold str at *
  clear h hS ho
  cases hv : isVarB s with
  | true =>
    rw [show (⟨s.toArray⟩ : ByteArray).data.toList = s from rfl, hv] at CV
    rw [if_pos hv] at HO
    go_enter Tryz.func62, Tryz.ntmps62
    go_wp2_with (go_at_call 122; refine CV.out.mono ?_; rintro _ w1 ⟨rfl, hw1⟩; subst w1)
    refine CS.out.mono ?_
    rintro _ w1 ⟨rfl, hs1, hf1⟩
    have HS1 := hide hs1
    have HF1 := hide hf1
    clear hs1 hf1
    go_wp2_with fail
    go_end0
    exact Eb.ok HO.out HF1.out HS1.out
  | false =>
    rw [show (⟨s.toArray⟩ : ByteArray).data.toList = s from rfl, hv] at CV
    rw [if_neg (by rw [hv]; simp)] at HO
    go_enter Tryz.func62, Tryz.ntmps62
    go_wp2_with (go_at_call 122; refine CV.out.mono ?_; rintro _ w1 ⟨rfl, hw1⟩; subst w1)
    refine CM.out.mono ?_
    intro e w1 hE
    rcases hE.no with ⟨c1, h3, rfl, hw⟩ | ⟨m, h3, rfl, hw⟩
    · subst w1
      exact on_panic rfl (Eb.bad (ex_no HO.out h3) (.refl _ _))
    subst w1
    have HO2 := ex_go HO.out h3
    go_wp2_with fail
    go_end0
    exact Eb.ok HO2 (.refl _ _) ⟨_, _, HS.out⟩
end
end Go.Proofs.YtfnobccminhjpabGreat
