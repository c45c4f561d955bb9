/- LexerCuts, walked. -/
import Derived.Test.YtlllgndbcagkgaaWorks
namespace Go.Proofs.Ytlllgndbcagkgaa
open Go.RowKit

theorem walk_len : ∀ (n : Nat) (l : List UInt8) (i : Nat) (tk : List Tok) (rm : List (List UInt8)), l.length ≤ n → (walk n l i tk rm).tk.length ≤ tk.length + l.length ∧ (walk n l i tk rm).rm.length ≤ rm.length + l.length := by
  intro n
  induction n with
  | zero => intro l i tk rm _; simp only [walk]; omega
  | succ n ih =>
    intro l i tk rm h
    cases l with
    | nil => simp only [walk]; simp
    | cons c r =>
      simp only [List.length_cons] at h ⊢
      simp only [walk]
      split
      · have := ih r (i + 1) tk rm (by omega); omega
      · split
        · have := ih (r.drop (span noEnd r)) (i + 1 + span noEnd r) tk (rm ++ [r.take (span noEnd r)]) (by simp; omega)
          simp only [List.length_append, List.length_cons, List.length_nil, List.length_drop] at this ⊢
          omega
        · split
          · simp
          · next hne =>
            have hl := one_len (l := c :: r) (by simp) (by simpa using hne)
            have := ih ((c :: r).drop (one (c :: r)).2.1) (i + (one (c :: r)).2.1) (tk ++ [tokOf (one (c :: r)).1 (one (c :: r)).2.1 (c :: r) i]) rm (by simp only [List.length_drop, List.length_cons]; omega)
            simp only [List.length_append, List.length_cons, List.length_nil, List.length_drop] at this ⊢
            omega

theorem lexT_len (s : List UInt8) : (lexT s).tk.length ≤ 65536 ∧ (lexT s).rm.length ≤ 65536 := by
  unfold lexT
  split
  · simp
  · have := walk_len s.length s 0 [] [] (Nat.le_refl _)
    have e : lexR s = walk s.length s 0 [] [] := rfl
    rw [e]
    simp only [List.length_nil] at this
    omega

set_option maxRecDepth 100000 in
set_option maxHeartbeats 1600000 in
theorem cuts_walk (s : ByteArray) (w : World) (_hs : s.size ≤ 140737488351232) :
    Calls Try.prog 3 #[.string s] w fun e w' => e = .returned (.bool true) ∧ Below w.heap.size w w' := by
  have CN := hide num_any
  have CW := hide works_any
  have C1 := hide (tokens_any s)
  have C2 := hide (refTokens_any s)
  have C3 := hide (remarks_any s)
  have C4 := hide (refRemarks_any s)
  have HL := lexT_len s.data.toList
  generalize lexT s.data.toList = Z at *
  have S1 := hide (fun a b ca cb w ha hb => sameTokens_yes a b ca cb Z.tk w ha hb (by omega))
  have S2 := hide (fun a b ca cb w ha hb => sameStrings_yes a b ca cb Z.rm w ha hb (by omega))
  clear HL
  go_enter Try.func3, Try.ntmps3
  go_wp2_with fail
  refine (C1.out _).mono ?_
  rintro _ w1 ⟨v1, rfl, o1, hb1⟩
  obtain ⟨a1, c1, rfl, r1⟩ := own_rowT o1
  have B1 := hide hb1
  have R1 := hide r1
  clear hb1 r1 o1 C1
  go_wp2_with fail
  refine (C2.out _).mono ?_
  rintro _ w2 ⟨v2, rfl, o2, hb2⟩
  obtain ⟨a2, c2, rfl, r2⟩ := own_rowT o2
  have B2 : Hid (Below w.heap.size w w2) := B1.out.trans (hb2.mono B1.out.size)
  have R1' := hide (R1.out.below hb2)
  have R2 := hide r2
  clear hb2 r2 o2 C2 B1 R1
  go_wp2_with fail
  refine (C3.out _).mono ?_
  rintro _ w3 ⟨v3, rfl, o3, hb3⟩
  obtain ⟨a3, c3, rfl, r3⟩ := own_rowS o3
  have B3 : Hid (Below w.heap.size w w3) := B2.out.trans (hb3.mono B2.out.size)
  have R1'' := hide (R1'.out.below hb3)
  have R2' := hide (R2.out.below hb3)
  have R3 := hide r3
  clear hb3 r3 o3 C3 B2 R1' R2
  go_wp2_with fail
  refine (C4.out _).mono ?_
  rintro _ w4 ⟨v4, rfl, o4, hb4⟩
  obtain ⟨a4, c4, rfl, r4⟩ := own_rowS o4
  have B4 : Hid (Below w.heap.size w w4) := B3.out.trans (hb4.mono B3.out.size)
  have T1 := hide (S1.out a1 a2 c1 c2 w4 (R1''.out.below hb4) (R2'.out.below hb4))
  have R3' := hide (R3.out.below hb4)
  have R4 := hide r4
  clear hb4 r4 o4 C4 B3 R1'' R2' R3 S1
  go_wp2_with fail
  refine T1.out.mono ?_
  rintro _ w5 ⟨rfl, hb5⟩
  have B5 : Hid (Below w.heap.size w w5) := B4.out.trans (hb5.mono B4.out.size)
  have T2 := hide (S2.out a3 a4 c3 c4 w5 (R3'.out.below hb5) (R4.out.below hb5))
  clear hb5 B4 R3' R4 S2 T1
  go_wp2_with fail
  refine (CN.out _ _).mono ?_
  rintro _ w6 ⟨rfl, hw⟩
  subst w6
  go_wp2_with fail
  refine T2.out.mono ?_
  rintro _ w6 ⟨rfl, hb6⟩
  have B6 : Hid (Below w.heap.size w w6) := B5.out.trans (hb6.mono B5.out.size)
  clear hb6 B5 T2
  go_wp2_with fail
  refine (CN.out _ _).mono ?_
  rintro _ w7 ⟨rfl, hw⟩
  subst w7
  go_wp2_with fail
  refine (CW.out _).mono ?_
  rintro _ w7 ⟨rfl, hb7⟩
  have B7 : Hid (Below w.heap.size w w7) := B6.out.trans (hb7.mono B6.out.size)
  clear hb7 B6
  go_wp2_with fail
  go_ret
  exact ⟨rfl, B7.out⟩
end Go.Proofs.Ytlllgndbcagkgaa
