/- fast.fault. -/
import Derived.Test.YtcobmbclhhimjaaGreatHd
import Derived.Test.YtcobmbclhhimjaaGreatFru
namespace Go.Proofs.YtcobmbclhhimjaaGreat.Fa
open Go.RowKit

section
variable {w : World} {T : Th} {F : List Int} {fa ra ba ea : Option Addr} {fc rc bc ec : Nat}
set_option maxRecDepth 100000 in
set_option maxHeartbeats 3200000 in
theorem checkFacts_any (hF : Ints w.heap.size w F (.slice ea F.length ec)) :
    Calls Tryz.prog 41 #[tv T fa fc ra rc ba bc, .slice ea F.length ec] w fun e w' => e = .returned (.int .i64 (if risesM F T.lits then 0 else 181)) ∧ Below w.heap.size w w' := by
  have hB := below_new w (.cells #[.int .i64 T.lits, .slice fa T.foes.length fc, .slice ra T.rules.length rc, .slice ba T.beats.length bc] 25)
  have hX := heap_alloc_new w (.cells #[.int .i64 T.lits, .slice fa T.foes.length fc, .slice ra T.rules.length rc, .slice ba T.beats.length bc] 25)
  have HF := hide (Ints.go hB hF)
  have hl := hF.lim
  obtain ⟨b, hb⟩ : ∃ b, risesM F T.lits = b := ⟨_, rfl⟩
  have CR := hide (rising_any (c := ec) HF.out.at1 hl T.lits)
  rw [hb] at CR ⊢
  have HB := hide hB
  clear hB hF hb
  go_enter Tryz.func41, Tryz.ntmps41
  go_upto_region 1 with fail
  generalize w.alloc (.cells #[.int .i64 T.lits, .slice fa T.foes.length fc, .slice ra T.rules.length rc, .slice ba T.beats.length bc] 25) = W at *
  obtain ⟨-, c0, c1, c2, c3⟩ := Bt.of hX
  clear hX
  cases b with
  | true =>
    go_wp2_with (go_at_call 54; refine CR.out.mono ?_; rintro _ w2 ⟨rfl, rfl⟩)
    go_ret
    exact ⟨rfl, HB.out⟩
  | false =>
    go_wp2_with (go_at_call 54; refine CR.out.mono ?_; rintro _ w2 ⟨rfl, rfl⟩)
    go_ret
    exact ⟨rfl, HB.out⟩
set_option maxRecDepth 100000 in
set_option maxHeartbeats 3200000 in
theorem fault_any (h : TA w.heap.size w T fa fc ra rc ba bc) (hF : Ints w.heap.size w F (.slice ea F.length ec)) :
    Calls Tryz.prog 29 #[tv T fa fc ra rc ba bc, .slice ea F.length ec] w fun e w' => e = .returned (.int .i64 (faultM T F)) ∧ Below w.heap.size w w' := by
  have hB := below_new w (.cells #[.int .i64 T.lits, .slice fa T.foes.length fc, .slice ra T.rules.length rc, .slice ba T.beats.length bc] 25)
  have hX := heap_alloc_new w (.cells #[.int .i64 T.lits, .slice fa T.foes.length fc, .slice ra T.rules.length rc, .slice ba T.beats.length bc] 25)
  have HF := hide (Ints.go hB hF)
  have hL := TR.go hB h
  have CC := hide (check_any hL)
  have HB := hide hB
  have HX := hide hX
  obtain ⟨e0, p0, hab⟩ : ∃ a b, checkM T = (a, b) := ⟨_, _, rfl⟩
  rw [hab] at CC
  unfold dup at CC
  simp only at CC
  have HE : Hid ((checkM T).1 = e0) := hide (by rw [hab])
  clear h hB hL hab hF
  go_enter Tryz.func29, Tryz.ntmps29
  go_upto_region 1 with fail
  generalize w.alloc (.cells #[.int .i64 T.lits, .slice fa T.foes.length fc, .slice ra T.rules.length rc, .slice ba T.beats.length bc] 25) = W at *
  obtain ⟨-, c0, c1, c2, c3⟩ := Bt.of hX
  clear hX
  by_cases ha : e0 = 0
  · subst ha
    go_upto_region 4 with (go_at_call 47; refine CC.out.mono ?_; rintro _ w1 ⟨rfl, hw1⟩; have HB1 := hide (HB.out.trans (hw1.mono HB.out.size)); have HI1 := hide (Ints.go hw1 HF.out); have HX1 := hide ((hw1.block _ (loc_lt HX.out)).trans HX.out); clear hw1)
    clear c0 c1 c2 c3 CC HB HX HF
    obtain ⟨-, c0, c1, c2, c3⟩ := Bt.of HX1.out
    have CF := hide (checkFacts_any (T := T) (fa := fa) (fc := fc) (ra := ra) (rc := rc) (ba := ba) (bc := bc) HI1.out)
    obtain ⟨v, hv⟩ : ∃ v, (if risesM F T.lits then (0 : Int) else 181) = v := ⟨_, rfl⟩
    have HV := hide hv
    rw [hv] at CF
    clear hv
    go_wp2_with (go_at_call 41; refine CF.out.mono ?_; rintro _ w2 ⟨rfl, hw2⟩; have HB2 := hide (HB1.out.trans (hw2.mono HB1.out.size)); clear hw2)
    go_ret
    refine ⟨?_, HB2.out⟩
    unfold faultM
    rw [HE.out, if_neg (by decide), HV.out]
    rfl
  · have hab2 : (e0 != 0) = true := by simpa using ha
    have HF0 : Hid (faultM T F = e0) := hide (by unfold faultM; rw [HE.out, if_pos ha])
    go_wp2_with (go_at_call 47; refine CC.out.mono ?_; rintro _ w1 ⟨rfl, hw1⟩; have HB1 := hide (HB.out.trans (hw1.mono HB.out.size)); clear hw1)
    go_ret
    exact ⟨by rw [HF0.out]; rfl, HB1.out⟩
end
end Go.Proofs.YtcobmbclhhimjaaGreat.Fa
/- Run, Counted. -/
namespace Go.Proofs.YtcobmbclhhimjaaGreat.Fa
open Go.RowKit

section
variable {w : World} {T : Th} {F : List Int} {fa ra ba ea : Option Addr} {fc rc bc ec : Nat}
theorem run_ends (h : TA w.heap.size w T fa fc ra rc ba bc) (hF : Ints w.heap.size w F (.slice ea F.length ec)) {n : Nat} (hp : Pf T F n) {P : Es → Prop} (h0 : P (layE T F n)) (hst : ∀ e, P e → Tok n e → e.tk < e.td.length → P (stepE T F e)) :
    Calls Tryz.prog 30 #[tv T fa fc ra rc ba bc, .slice ea F.length ec] w fun o w' => ∃ K va e, o = .returned (ptr K) ∧ w.heap.size ≤ K ∧ w'.cell? ⟨K, 18, none⟩ = some (.slice va n n) ∧ (∃ m k, Sol T F m k ∧ w'.ownsRow w.heap.size 77 1 (.slice va n n) n (u8s m) ∧ (Alls T F n m e ∧ e.tk = e.td.length)) ∧ (∃ ta tc, w'.cell? ⟨K, 19, none⟩ = some (.slice ta e.td.length tc)) ∧ w'.cell? ⟨K, 21, none⟩ = some (.int .i64 e.up) ∧ Tok n e ∧ P e ∧ Below w.heap.size w w' := by
  obtain ⟨m, k, hs⟩ := sol_exists hp
  refine (run_any (Inv := fun e => Alls T F n m e ∧ P e) h hF hp (start_ok hp) ⟨start_all hp hs, h0⟩ fun e hi ht hl => ⟨step_all hp hs hi.1 ht hl, hst e hi.2 ht hl⟩).mono ?_
  rintro o w' ⟨A, S, N, e, rfl, hN, ⟨tv1, he⟩, ⟨hi, hP⟩, htk, hb⟩
  have hmq : N ≤ A.mq := Classical.byContradiction fun hn => (he.kp A.mq (he.ro.n0 _ (by omega))).2.2.2.2.2.1 rfl
  have hK : N ≤ A.K := Classical.byContradiction fun hn => (he.kp A.K (he.ro.n0 _ (by omega))).2.1 rfl
  have hn4 := hp.n4
  have hsl : ∃ ta tc, tv1 = .slice ta e.td.length tc := owns_slice he.td
  obtain ⟨ta, tc, rfl⟩ := hsl
  have hrow := he.mq
  rw [end_row hp hs hi htk he.tok] at hrow
  have hlen := sol_len hp hs
  refine ⟨A.K, some ⟨A.mq, 0, none⟩, e, rfl, by omega, he.bx.get (i := 18) rfl, ⟨m, k, hs, ?_, hi, htk⟩, ⟨ta, tc, he.bx.get (i := 19) rfl⟩, he.bx.get (i := 21) rfl, he.tok, hP, hb⟩
  exact ⟨by unfold u8s; rw [List.length_map, hlen, Nat.mul_one], .inr ⟨A.mq, n, _, rfl, by omega, hrow, Nat.le_refl _, by unfold maxLen; omega, by simp [hlen], by unfold u8s; simp; exact List.take_of_length_le (by simp [hlen])⟩⟩
set_option maxRecDepth 100000 in
set_option maxHeartbeats 3200000 in
theorem Run_ok (h : TA w.heap.size w T fa fc ra rc ba bc) (hF : Ints w.heap.size w F (.slice ea F.length ec)) (h0 : faultM T F = 0) :
    Calls Tryz.prog 8 #[tv T fa fc ra rc ba bc, .slice ea F.length ec] w fun e w' => ∃ v m i, e = .returned (.tuple #[v, .int .i64 0]) ∧ Sol T F m i ∧ w'.ownsRow w.heap.size 77 1 v T.lits.toNat (u8s m) ∧ Below w.heap.size w w' := by
  have hB := below_new w (.cells #[.int .i64 T.lits, .slice fa T.foes.length fc, .slice ra T.rules.length rc, .slice ba T.beats.length bc] 25)
  have hX := heap_alloc_new w (.cells #[.int .i64 T.lits, .slice fa T.foes.length fc, .slice ra T.rules.length rc, .slice ba T.beats.length bc] 25)
  have CF := hide (fault_any (TR.go hB h) (Ints.go hB hF))
  rw [h0] at CF
  have HP := hide (pf_of h0)
  have HTA := hide (TR.go hB h)
  have HF := hide (Ints.go hB hF)
  have HB := hide hB
  have HX := hide hX
  clear h hB hF h0
  go_enter Tryz.func8, Tryz.ntmps8
  go_upto_region 1 with fail
  generalize w.alloc (.cells #[.int .i64 T.lits, .slice fa T.foes.length fc, .slice ra T.rules.length rc, .slice ba T.beats.length bc] 25) = W at *
  obtain ⟨-, c0, c1, c2, c3⟩ := Bt.of hX
  clear hX
  go_upto_region 4 with (go_at_call 29; refine CF.out.mono ?_; rintro _ w1 ⟨rfl, hw1⟩; have HW1 := hide hw1; clear hw1)
  have HX1 := hide ((HW1.out.block _ (loc_lt HX.out)).trans HX.out)
  have CS := hide (run_ends (P := fun _ => True) (TR.go HW1.out HTA.out) (Ints.go HW1.out HF.out) HP.out trivial fun _ _ _ _ => trivial)
  have HB1 := hide (HB.out.trans (HW1.out.mono HB.out.size))
  clear c0 c1 c2 c3 CF HX HTA HF HB HW1
  obtain ⟨-, c0, c1, c2, c3⟩ := Bt.of HX1.out
  go_wp2_with (go_at_call 30; refine CS.out.mono ?_; rintro _ w2 ⟨K, va, e, rfl, -, k18, ⟨m, i, hs, hown, -⟩, -, -, -, -, hw2⟩; have HS := hide hs; have HO := hide hown; have HW2 := hide hw2; clear hs hown hw2)
  go_ret2
  exact ⟨_, m, i, rfl, HS.out, owns_down HO.out HB1.out.size, HB1.out.trans (HW2.out.mono HB1.out.size)⟩
end
end Go.Proofs.YtcobmbclhhimjaaGreat.Fa
