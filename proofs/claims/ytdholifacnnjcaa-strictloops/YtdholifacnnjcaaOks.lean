/- The calls where the theory and its facts may be, and where not. -/
import Derived.Test.YtdholifacnnjcaaMk
namespace Go.Proofs.Ytdholifacnnjcaa
open Go.RowKit

section
variable {w : World} {T : Th} {F : List Int} {fa ra ba ea : Option Addr} {fc rc bc ec : Nat}
theorem plus_ok (h : TA w.heap.size w T fa fc ra rc ba bc) (hF : Ints w.heap.size w F (.slice ea F.length ec)) (h0 : faultM T F = 0) :
    Calls Try.prog 8 #[tv T fa fc ra rc ba bc, .slice ea F.length ec] w fun e w' => ∃ xa xc, e = .returned (.tuple #[.slice xa (selM (sgM T F) 1).length xc, .int .i64 0]) ∧ At1 w' xa (ints (selM (sgM T F) 1)) ∧ Below w.heap.size w w' := by
  refine (plus_any h hF).mono ?_
  rintro e w' ⟨(⟨h1, rfl⟩ | ⟨h1, xa, xc, rfl, ho⟩), hw⟩
  · exact absurd h0 h1
  · exact ⟨xa, xc, rfl, owns_at1 ho, hw⟩
theorem plus_no (h : TA w.heap.size w T fa fc ra rc ba bc) (hF : Ints w.heap.size w F (.slice ea F.length ec)) {e0 : Int} (he : faultM T F = e0) (h0 : e0 ≠ 0) :
    Calls Try.prog 8 #[tv T fa fc ra rc ba bc, .slice ea F.length ec] w fun e w' => e = .returned (.tuple #[.slice none 0 0, .int .i64 e0]) ∧ Below w.heap.size w w' := by
  subst he
  refine (plus_any h hF).mono ?_
  rintro e w' ⟨(⟨h1, rfl⟩ | ⟨h1, xa, xc, rfl, ho⟩), hw⟩
  · exact ⟨rfl, hw⟩
  · exact absurd h1 h0
theorem minus_ok (h : TA w.heap.size w T fa fc ra rc ba bc) (hF : Ints w.heap.size w F (.slice ea F.length ec)) (h0 : faultM T F = 0) :
    Calls Try.prog 9 #[tv T fa fc ra rc ba bc, .slice ea F.length ec] w fun e w' => ∃ xa xc, e = .returned (.tuple #[.slice xa (selM (sgM T F) 2).length xc, .int .i64 0]) ∧ At1 w' xa (ints (selM (sgM T F) 2)) ∧ Below w.heap.size w w' := by
  refine (minus_any h hF).mono ?_
  rintro e w' ⟨(⟨h1, rfl⟩ | ⟨h1, xa, xc, rfl, ho⟩), hw⟩
  · exact absurd h0 h1
  · exact ⟨xa, xc, rfl, owns_at1 ho, hw⟩
theorem minus_no (h : TA w.heap.size w T fa fc ra rc ba bc) (hF : Ints w.heap.size w F (.slice ea F.length ec)) {e0 : Int} (he : faultM T F = e0) (h0 : e0 ≠ 0) :
    Calls Try.prog 9 #[tv T fa fc ra rc ba bc, .slice ea F.length ec] w fun e w' => e = .returned (.tuple #[.slice none 0 0, .int .i64 e0]) ∧ Below w.heap.size w w' := by
  subst he
  refine (minus_any h hF).mono ?_
  rintro e w' ⟨(⟨h1, rfl⟩ | ⟨h1, xa, xc, rfl, ho⟩), hw⟩
  · exact ⟨rfl, hw⟩
  · exact absurd h1 h0
theorem neither_ok (h : TA w.heap.size w T fa fc ra rc ba bc) (hF : Ints w.heap.size w F (.slice ea F.length ec)) (h0 : faultM T F = 0) :
    Calls Try.prog 10 #[tv T fa fc ra rc ba bc, .slice ea F.length ec] w fun e w' => ∃ xa xc, e = .returned (.tuple #[.slice xa (selM (sgM T F) 0).length xc, .int .i64 0]) ∧ At1 w' xa (ints (selM (sgM T F) 0)) ∧ Below w.heap.size w w' := by
  refine (neither_any h hF).mono ?_
  rintro e w' ⟨(⟨h1, rfl⟩ | ⟨h1, xa, xc, rfl, ho⟩), hw⟩
  · exact absurd h0 h1
  · exact ⟨xa, xc, rfl, owns_at1 ho, hw⟩
theorem neither_no (h : TA w.heap.size w T fa fc ra rc ba bc) (hF : Ints w.heap.size w F (.slice ea F.length ec)) {e0 : Int} (he : faultM T F = e0) (h0 : e0 ≠ 0) :
    Calls Try.prog 10 #[tv T fa fc ra rc ba bc, .slice ea F.length ec] w fun e w' => e = .returned (.tuple #[.slice none 0 0, .int .i64 e0]) ∧ Below w.heap.size w w' := by
  subst he
  refine (neither_any h hF).mono ?_
  rintro e w' ⟨(⟨h1, rfl⟩ | ⟨h1, xa, xc, rfl, ho⟩), hw⟩
  · exact ⟨rfl, hw⟩
  · exact absurd h1 h0
theorem heights_ok (h : TA w.heap.size w T fa fc ra rc ba bc) (hF : Ints w.heap.size w F (.slice ea F.length ec)) (h0 : faultM T F = 0) {n : Nat} (hn : T.lits.toNat = n) :
    Calls Try.prog 12 #[tv T fa fc ra rc ba bc, .slice ea F.length ec] w fun e w' => ∃ rd rr, e = .returned (.tuple #[.slice (some ⟨rr, 0, none⟩) n n, .int .i64 0]) ∧ Fin T F n (sgM T F) rd ∧ Fx rr 3 (ints rd) w' ∧ Below w.heap.size w w' := by
  subst hn
  refine (heights_any h hF).mono ?_
  rintro e w' ⟨(⟨h1, rfl⟩ | ⟨h1, rd, rr, hf, rfl, hr, hlo⟩), hw⟩
  · exact absurd h0 h1
  · exact ⟨rd, rr, rfl, hf, hr, hw⟩
theorem heights_no (h : TA w.heap.size w T fa fc ra rc ba bc) (hF : Ints w.heap.size w F (.slice ea F.length ec)) {e0 : Int} (he : faultM T F = e0) (h0 : e0 ≠ 0) :
    Calls Try.prog 12 #[tv T fa fc ra rc ba bc, .slice ea F.length ec] w fun e w' => e = .returned (.tuple #[.slice none 0 0, .int .i64 e0]) ∧ Below w.heap.size w w' := by
  subst he
  refine (heights_any h hF).mono ?_
  rintro e w' ⟨(⟨h1, rfl⟩ | ⟨h1, _⟩), hw⟩
  · exact ⟨rfl, hw⟩
  · exact absurd h1 h0
end
end Go.Proofs.Ytdholifacnnjcaa
