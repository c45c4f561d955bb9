/- LexerPlaces, walked. -/
import Derived.Test.YtlllgndbcagkgaaWorks
namespace Go.Proofs.Ytlllgndbcagkgaa
open Go.RowKit

set_option maxRecDepth 100000 in
set_option maxHeartbeats 1600000 in
theorem places_walk (s : ByteArray) (i : Int) (w : World) (hs : s.size ≤ 140737488351232) :
    Calls Try.prog 5 #[.string s, .int .i64 i] w fun e w' => e = .returned (.bool true) ∧ Below w.heap.size w w' := by
  have CN := hide num_any
  have CW := hide works_any
  by_cases hi : i < 0 ∨ (s.size : Int) < i
  · have C1 := hide (place_out s i w hi)
    have C2 := hide (refPlace_out s i w hi)
    clear hi
    go_enter Try.func5, Try.ntmps5
    go_wp2_with fail
    refine C1.out.mono ?_
    rintro _ w1 ⟨rfl, hw⟩
    subst w1
    go_wp2_with fail
    refine C2.out.mono ?_
    rintro _ w1 ⟨rfl, hw⟩
    subst w1
    go_wp2_with fail
    refine (CN.out _ _).mono ?_
    rintro _ w1 ⟨rfl, hw⟩
    subst w1
    go_wp2_with fail
    refine (CW.out _).mono ?_
    rintro _ w1 ⟨rfl, hb⟩
    have HB := hide hb
    clear hb
    go_wp2_with fail
    go_ret
    exact ⟨rfl, HB.out⟩
  · obtain ⟨k, rfl⟩ : ∃ k : Nat, i = (k : Int) := ⟨i.toNat, by omega⟩
    have hk : k ≤ s.size := by omega
    have C1 := hide (place_in s k w (by omega) hk)
    have C2 := hide (fun w => refPlace_in s k w (by omega) hk)
    clear hi
    generalize placeF (s.data.toList.take k) = q at *
    go_enter Try.func5, Try.ntmps5
    go_wp2_with fail
    refine C1.out.mono ?_
    rintro _ w1 ⟨rfl, hb1⟩
    have HB1 := hide hb1
    clear hb1
    go_wp2_with fail
    refine (C2.out _).mono ?_
    rintro _ w2 ⟨rfl, hw⟩
    subst w2
    go_wp2_with fail
    refine (CN.out _ _).mono ?_
    rintro _ w2 ⟨rfl, hw⟩
    subst w2
    go_wp2_with fail
    refine (CW.out _).mono ?_
    rintro _ w2 ⟨rfl, hb⟩
    have HB := hide hb
    clear hb
    go_wp2_with fail
    go_ret
    exact ⟨rfl, HB1.out.trans (HB.out.mono HB1.out.size)⟩
end Go.Proofs.Ytlllgndbcagkgaa
