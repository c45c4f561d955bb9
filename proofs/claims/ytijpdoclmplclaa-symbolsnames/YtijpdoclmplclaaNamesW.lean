/- SymbolsNames' walk. -/
import Derived.Test.YtijpdoclmplclaaAlive
import Derived.Test.YtijpdoclmplclaaRefSp
namespace Go.Proofs.Ytijpdoclmplclaa
open Go.RowKit Go.Shelf Go.Maps

set_option maxRecDepth 100000 in
set_option maxHeartbeats 6400000 in
theorem namesW (s : ByteArray) (n : Int) (w : World) : Calls Try.prog 3 #[.string s, .int .i64 n] w fun e w' => e = .returned (.bool true) ∧ Below w.heap.size w w' := by
  have CN := hide (fun w => isName_any s w)
  have CV := hide (fun w => isVar_any s w)
  have RN : Hid (∀ w, Calls Try.prog 10 #[.string s] w fun e w' => e = .returned (.bool (isNameB s.data.toList)) ∧ w' = w) := fun w => risName_any s w
  have RV : Hid (∀ w, Calls Try.prog 12 #[.string s] w fun e w' => e = .returned (.bool (isVarB s.data.toList)) ∧ w' = w) := fun w => risVar_any s w
  have CA := hide (fun w => alive_any w)
  generalize isNameB s.data.toList = bn at CN RN
  generalize isVarB s.data.toList = bv at CV RV
  by_cases hn : 1 ≤ n ∧ n ≤ 4096
  · have C1 := hide (new_any (Z := fun _ => True) n w (fun _ _ => trivial) hn.1 hn.2)
    obtain ⟨h1, h2⟩ := hn
    go_enter Try.func3, Try.ntmps3
    go_wp2_with fail
    refine C1.out.mono ?_
    rintro _ w1 ⟨B, M, rfl, -, hb1⟩
    have HB1 := hide hb1
    clear hb1 C1
    go_wp2_with (first | (go_at_call 9; refine (CN.out _).mono ?_; rintro _ w2 ⟨rfl, hw2⟩; subst w2) | (go_at_call 11; refine (CV.out _).mono ?_; rintro _ w2 ⟨rfl, hw2⟩; subst w2) | (go_at_call 10; refine (RN.out _).mono ?_; rintro _ w2 ⟨rfl, hw2⟩; subst w2) | (go_at_call 12; refine (RV.out _).mono ?_; rintro _ w2 ⟨rfl, hw2⟩; subst w2) | (go_at_call 13; go_in) | (go_at_call 8; go_in))
    refine (CA.out _).mono ?_
    rintro _ w3 ⟨rfl, hb3⟩
    have HB3 := hide ((HB1.out.alloc HB1.out.size (.cells #[.int .i64 n, .slice none 0 0] 41)).trans (hb3.mono (by have := HB1.out.size; simp; omega)))
    clear hb3
    go_wp2_with fail
    go_ret
    exact ⟨rfl, HB3.out⟩
  · have C1 := hide (new_not n w hn)
    by_cases h : 1 ≤ n
    · have h2 : 4096 < n := by omega
      clear hn
      go_enter Try.func3, Try.ntmps3
      go_wp2_with fail
      refine C1.out.mono ?_
      rintro _ w1 ⟨rfl, hw1⟩
      subst w1
      clear C1
      go_wp2_with (first | (go_at_call 9; refine (CN.out _).mono ?_; rintro _ w2 ⟨rfl, hw2⟩; subst w2) | (go_at_call 11; refine (CV.out _).mono ?_; rintro _ w2 ⟨rfl, hw2⟩; subst w2) | (go_at_call 10; refine (RN.out _).mono ?_; rintro _ w2 ⟨rfl, hw2⟩; subst w2) | (go_at_call 12; refine (RV.out _).mono ?_; rintro _ w2 ⟨rfl, hw2⟩; subst w2) | (go_at_call 13; go_in) | (go_at_call 8; go_in))
      refine (CA.out _).mono ?_
      rintro _ w3 ⟨rfl, hb3⟩
      go_wp2_with fail
      go_ret
      exact ⟨rfl, hb3⟩
    · have h2 : n < 1 := by omega
      clear hn h
      go_enter Try.func3, Try.ntmps3
      go_wp2_with fail
      refine C1.out.mono ?_
      rintro _ w1 ⟨rfl, hw1⟩
      subst w1
      clear C1
      go_wp2_with (first | (go_at_call 9; refine (CN.out _).mono ?_; rintro _ w2 ⟨rfl, hw2⟩; subst w2) | (go_at_call 11; refine (CV.out _).mono ?_; rintro _ w2 ⟨rfl, hw2⟩; subst w2) | (go_at_call 10; refine (RN.out _).mono ?_; rintro _ w2 ⟨rfl, hw2⟩; subst w2) | (go_at_call 12; refine (RV.out _).mono ?_; rintro _ w2 ⟨rfl, hw2⟩; subst w2) | (go_at_call 13; go_in) | (go_at_call 8; go_in))
      refine (CA.out _).mono ?_
      rintro _ w3 ⟨rfl, hb3⟩
      go_wp2_with fail
      go_ret
      exact ⟨rfl, hb3⟩
end Go.Proofs.Ytijpdoclmplclaa
