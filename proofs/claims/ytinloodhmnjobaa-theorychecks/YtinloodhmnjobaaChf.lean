/- theory.CheckFacts. -/
import Derived.Test.YtinloodhmnjobaaWorks
namespace Go.Proofs.Ytinloodhmnjobaa
open Go.RowKit

section
variable {w : World} {T : Th} {F : List Int} {fa ra ba ea : Option Addr} {fc rc bc ec : Nat}
set_option maxRecDepth 100000 in
set_option maxHeartbeats 3200000 in
theorem checkFacts_any (hF : Ints w.heap.size w F (.slice ea F.length ec)) :
    Calls Try.prog 12 #[tv T fa fc ra rc ba bc, .slice ea F.length ec] w fun e w' => e = .returned (.int .i64 (if risesM F T.lits then 0 else 181)) ∧ Below w.heap.size w w' := by
  have hB := below_new w (.cells #[.int .i64 T.lits, .slice fa T.foes.length fc, .slice ra T.rules.length rc, .slice ba T.beats.length bc] 25)
  have hX := heap_alloc_new w (.cells #[.int .i64 T.lits, .slice fa T.foes.length fc, .slice ra T.rules.length rc, .slice ba T.beats.length bc] 25)
  have HF := hide (Ints.go hB hF)
  have hl := hF.lim
  obtain ⟨b, hb⟩ : ∃ b, risesM F T.lits = b := ⟨_, rfl⟩
  have CR := hide (rising_any (c := ec) HF.out.at1 hl T.lits)
  rw [hb] at CR ⊢
  have HB := hide hB
  clear hB hF hb
  go_enter Try.func12, Try.ntmps12
  go_upto_region 1 with fail
  generalize w.alloc (.cells #[.int .i64 T.lits, .slice fa T.foes.length fc, .slice ra T.rules.length rc, .slice ba T.beats.length bc] 25) = W at *
  obtain ⟨-, c0, c1, c2, c3⟩ := Bt.of hX
  clear hX
  cases b with
  | true =>
    go_wp2_with (go_at_call 33; refine CR.out.mono ?_; rintro _ w2 ⟨rfl, rfl⟩)
    go_ret
    exact ⟨rfl, HB.out⟩
  | false =>
    go_wp2_with (go_at_call 33; refine CR.out.mono ?_; rintro _ w2 ⟨rfl, rfl⟩)
    go_ret
    exact ⟨rfl, HB.out⟩
end
end Go.Proofs.Ytinloodhmnjobaa
