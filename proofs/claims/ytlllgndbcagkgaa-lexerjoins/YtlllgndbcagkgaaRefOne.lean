/- The document's one token: a date. -/
import Derived.Test.YtlllgndbcagkgaaRefMid
namespace Go.Proofs.Ytlllgndbcagkgaa
open Go.RowKit

/-- What the document's function answers of a token at place i. -/
def oneV (i : Nat) (o : Nat × Nat × Nat × Nat) : Value :=
  if o.2.2.1 = 0 then .tuple #[.int .i64 o.1, .int .i64 ((i + o.2.1 : Nat) : Int), .int .i64 0, .int .i64 0] else .tuple #[.int .i64 0, .int .i64 0, .int .i64 o.2.2.1, .int .i64 ((i + o.2.2.2 : Nat) : Int)]

theorem results_tmp4 {fn : Func} {t u v x : Tmp} (h : fn.results = #[.tmp t, .tmp u, .tmp v, .tmp x]) (tmps : Array Value) (P : Program) (w : World) :
    (results fn tmps).run P w = .ok (.tuple #[tmps.getD t undef, tmps.getD u undef, tmps.getD v undef, tmps.getD x undef]) w := by
  simp [results, h]

section
variable {L : List UInt8} {i K kind : Nat} {o : Nat × Nat × Nat × Nat}

theorem oneV_over (hk : kind = 1 ∨ kind = 2) (h : 32 < K - i) (ho : o = fin kind (K - i) (L.drop i)) : oneV i o = .tuple #[.int .i64 0, .int .i64 0, .int .i64 5, .int .i64 i] := by
  unfold fin at ho
  rw [if_pos ⟨hk, h⟩] at ho
  rw [ho]; simp [oneV]

theorem oneV_word (hK : i ≤ K) (hn : ¬ ((kind = 1 ∨ kind = 2) ∧ 32 < K - i)) (ho : o = fin kind (K - i) (L.drop i)) (hw : wordB (L.getD K 0) = true) : oneV i o = .tuple #[.int .i64 0, .int .i64 0, .int .i64 41, .int .i64 K] := by
  have e : i + (K - i) = K := by omega
  unfold fin at ho
  rw [if_neg hn, getD_drop, e, if_pos hw] at ho
  rw [ho]; simp [oneV, e]

theorem oneV_ok (hK : i ≤ K) (hn : ¬ ((kind = 1 ∨ kind = 2) ∧ 32 < K - i)) (ho : o = fin kind (K - i) (L.drop i)) (hw : wordB (L.getD K 0) = false) : oneV i o = .tuple #[.int .i64 kind, .int .i64 K, .int .i64 0, .int .i64 0] := by
  have e : i + (K - i) = K := by omega
  unfold fin at ho
  rw [if_neg hn, getD_drop, e, if_neg (by rw [hw]; simp)] at ho
  rw [ho]; simp only [oneV, if_true]; rw [e]
end

set_option maxRecDepth 100000 in
set_option maxHeartbeats 6400000 in
theorem one_date (s : ByteArray) (i : Nat) (w : World) (hs : s.size ≤ 100000) (hi : i < s.size) (hd : dateB (s.data.toList.drop i) = true) :
    Calls Try.prog 33 #[.string s, .int .i64 i] w fun e w' => e = .returned (oneV i (one (s.data.toList.drop i))) ∧ w' = w := by
  have CD := hide (date_any s i w hs hi)
  rw [hd] at CD
  obtain ⟨K, hK⟩ : ∃ K, K = i + 10 := ⟨_, rfl⟩
  have hKs : K ≤ s.size := by have := dateB_len hd; simp at this; omega
  have HO : Hid (one (s.data.toList.drop i) = fin 4 (K - i) (s.data.toList.drop i)) := by
    unfold Hid one
    rw [if_pos hd]; congr 1; omega
  have hKi : (i : Int) + 10 = (K : Int) := by omega
  clear hd
  have hik : i ≤ K := by omega
  clear hK
  go_enter Try.func33, Try.ntmps33
  go_wp2_with fail
  refine CD.out.mono ?_
  rintro _ w1 ⟨rfl, hw1⟩
  subst w1
  by_cases he : K < s.size
  · have CW := hide (word_any s[K] w)
    have HG : Hid (s.data.toList.getD K 0 = s[K]) := getD_at s K he
    cases hwb : wordB s[K] with
    | true =>
      have HV := hide (oneV_word (by omega) (by omega) HO.out (by rw [HG.out]; exact hwb))
      rw [hwb] at CW
      clear hwb HO HG
      go_wp2_with fail
      refine CW.out.mono ?_
      rintro _ w1 ⟨rfl, hw1⟩
      subst w1
      go_wp2_with fail
      try simp only [Exit.inBlock, Exit.then]
      refine bodyPost_ret (results_tmp4 rfl _ _ _) rfl ?_
      rw [HV.out]
      exact ⟨rfl, rfl⟩
    | false =>
      have HV := hide (oneV_ok (by omega) (by omega) HO.out (by rw [HG.out]; exact hwb))
      rw [hwb] at CW
      clear hwb HO HG
      go_wp2_with fail
      refine CW.out.mono ?_
      rintro _ w1 ⟨rfl, hw1⟩
      subst w1
      go_wp2_with fail
      try simp only [Exit.inBlock, Exit.then]
      refine bodyPost_ret (results_tmp4 rfl _ _ _) rfl ?_
      rw [HV.out]
      exact ⟨rfl, rfl⟩
  · have HV := hide (oneV_ok (by omega) (by omega) HO.out (by rw [getD_ge (by simp; omega)]; rfl))
    clear HO
    go_wp2_with fail
    try simp only [Exit.inBlock, Exit.then]
    refine bodyPost_ret (results_tmp4 rfl _ _ _) rfl ?_
    rw [HV.out]
    exact ⟨rfl, rfl⟩

end Go.Proofs.Ytlllgndbcagkgaa
