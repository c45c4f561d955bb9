/- NaiveCoherent, walked. -/
import Derived.Test.YtbnkdfhjdjgnhaaAlv
import Derived.Test.YtbnkdfhjdjgnhaaNvT
namespace Go.Proofs.Ytbnkdfhjdjgnhaa
open Go.RowKit

theorem coh_table : ∀ x : _root_.Fin 16, ((hb (x.val : Int) 1 && hb (x.val : Int) 2) || (hb (x.val : Int) 3 && hb (x.val : Int) 4) || (hb (x.val : Int) 1 && !hb (x.val : Int) 3) || (hb (x.val : Int) 4 && !hb (x.val : Int) 2) || [0, 2, 4, 5, 6, 10].contains x.val) = true := by decide +kernel
/-- Which marks a literal may have. -/
theorem coh_val {T : Th} {F m : List Int} {n i q : Nat} (hp : Pf T F n) (h : Sol T F m i) (hq : q < n) : m.getD q 0 = 0 ∨ m.getD q 0 = 2 ∨ m.getD q 0 = 4 ∨ m.getD q 0 = 5 ∨ m.getD q 0 = 6 ∨ m.getD q 0 = 10 := by
  have hb0 := sol_bys h q
  have hlt : m.getD q 0 < 16 := by rw [h.1]; exact Mk_small q
  have e : ∀ t, hs m (q : Int) t = hb (m.getD q 0) t := fun t => by unfold hs; rw [Int.toNat_natCast]
  have q0 : (0 : Int) ≤ (q : Int) := by omega
  have q1 : (q : Int) < (n : Int) := by omega
  have h1 := sol_strict hp h q0
  have h2 := sol_defeas hp h q0
  have h3 := sol_up hp h q0 q1
  have h4 := sol_down hp h q0 q1
  rw [e, e] at h1 h2 h3 h4
  obtain ⟨x, hx⟩ := Int.eq_ofNat_of_zero_le hb0.1
  rw [hx] at hlt h1 h2 h3 h4 ⊢
  have ht := coh_table ⟨x, by omega⟩
  simp only [Bool.or_eq_true, Bool.and_eq_true, Bool.not_eq_true'] at ht
  rcases ht with ⟨⟨⟨⟨a, b⟩ | ⟨a, b⟩⟩ | ⟨a, b⟩⟩ | ⟨a, b⟩⟩ | a
  · exact (h1 a b).elim
  · exact (h2 a b).elim
  · rw [h3 a] at b; cases b
  · rw [h4 a] at b; cases b
  · simp at a
    omega
set_option maxRecDepth 100000 in
set_option maxHeartbeats 6400000 in
theorem coherent_any {w : World} {T : Th} {F : List Int} {fa ra ba ea : Option Addr} {fc rc bc ec : Nat} (h : TA w.heap.size w T fa fc ra rc ba bc) (hF : Ints w.heap.size w F (.slice ea F.length ec)) :
    Calls Try.prog 4 #[tv T fa fc ra rc ba bc, .slice ea F.length ec] w fun e w' => e = .returned (.bool true) ∧ Below w.heap.size w w' := by
  have hB := below_new w (.cells #[.int .i64 T.lits, .slice fa T.foes.length fc, .slice ra T.rules.length rc, .slice ba T.beats.length bc] 25)
  have hX := heap_alloc_new w (.cells #[.int .i64 T.lits, .slice fa T.foes.length fc, .slice ra T.rules.length rc, .slice ba T.beats.length bc] 25)
  have HTA := hide (TR.go hB h)
  have HF := hide (Ints.go hB hF)
  have HB := hide hB
  have HX := hide hX
  clear h hB hF
  go_enter Try.func4, Try.ntmps4
  go_upto_region 1 with fail
  generalize w.alloc (.cells #[.int .i64 T.lits, .slice fa T.foes.length fc, .slice ra T.rules.length rc, .slice ba T.beats.length bc] 25) = W at *
  clear hX
  have CA := hide (alive_any (w := W))
  go_upto_region 3 with (go_at_call 8; refine CA.out.mono ?_; rintro _ w1 ⟨rfl, hw1⟩; have HW1 := hide hw1; clear hw1)
  have HX1 := hide ((HW1.out.block _ (loc_lt HX.out)).trans HX.out)
  have HTA1 := hide (TR.go HW1.out HTA.out)
  have HF1 := hide (Ints.go HW1.out HF.out)
  have HB1 := hide (HB.out.trans (HW1.out.mono HB.out.size))
  clear CA HX HTA HF HB HW1
  obtain ⟨-, c0, c1, c2, c3⟩ := Bt.of HX1.out
  by_cases hf : faultM T F = 0
  · have CS := hide (Solve_ok HTA1.out HF1.out hf)
    have HP := hide (pf_of hf)
    clear hf
    go_upto_region 4 with (go_at_call 9; refine CS.out.mono ?_; rintro _ w2 ⟨v, m, i, rfl, hs, hown, hw2⟩; have HS := hide hs; have HO := hide hown; have HW2 := hide hw2; clear hs hown hw2)
    have CN := hide (num_still w2 0)
    have HB2 := hide (HB1.out.trans (HW2.out.mono HB1.out.size))
    have HX2 := hide ((HW2.out.block _ (loc_lt HX1.out)).trans HX1.out)
    have HTA2 := hide (TR.go HW2.out HTA1.out)
    clear c0 c1 c2 c3 CS HTA1 HF1 HB1 HX1 HW2
    obtain ⟨n, hn⟩ : ∃ n, T.lits.toNat = n := ⟨_, rfl⟩
    have HML : Hid (m.length = n) := hide (by rw [← hn]; exact sol_len HP.out HS.out)
    rw [hn] at HO HP
    have hn4 := HP.out.n4
    clear hn
    obtain ⟨va, vc, rfl⟩ := owns_slice HO.out
    go_upto_region 7 with (go_at_call 10; refine CN.out.mono ?_; rintro _ w6 ⟨rfl, rfl⟩)
    clear CN HX2 HTA2
    go_loop [7] (fun x => ∃ k : Nat, k ≤ n ∧ x = .int .i64 k) (fun x => n - (intOf x).toNat)
    case atStart => exact ⟨0, by omega, rfl⟩
    case round =>
      obtain ⟨k, hk, rfl⟩ := hrel
      by_cases hlt : k < n
      · obtain ⟨g, o, rfl, a0⟩ := owns_at1 HO.out k _ (u8s_at (by rw [HML.out]; exact hlt))
        have hv := coh_val HP.out HS.out hlt
        generalize m.getD k 0 = x at *
        rcases hv with rfl | rfl | rfl | rfl | rfl | rfl
        · have z3 : bits .and .u8 0 3 = 0 := by decide
          have z12 : bits .and .u8 0 12 = 0 := by decide
          have z1 : bits .and .u8 0 1 = 0 := by decide
          have z4 : bits .and .u8 0 4 = 0 := by decide
          have z8 : bits .and .u8 0 8 = 0 := by decide
          have z2 : bits .and .u8 0 2 = 0 := by decide
          go_wp2_with fail
          go_round
          case rel => exact ⟨k + 1, by omega, by go_num⟩
          case measure => simp [intOf]; omega
        · have z3 : bits .and .u8 2 3 = 2 := by decide
          have z12 : bits .and .u8 2 12 = 0 := by decide
          have z1 : bits .and .u8 2 1 = 0 := by decide
          have z4 : bits .and .u8 2 4 = 0 := by decide
          have z8 : bits .and .u8 2 8 = 0 := by decide
          have z2 : bits .and .u8 2 2 = 2 := by decide
          go_wp2_with fail
          go_round
          case rel => exact ⟨k + 1, by omega, by go_num⟩
          case measure => simp [intOf]; omega
        · have z3 : bits .and .u8 4 3 = 0 := by decide
          have z12 : bits .and .u8 4 12 = 4 := by decide
          have z1 : bits .and .u8 4 1 = 0 := by decide
          have z4 : bits .and .u8 4 4 = 4 := by decide
          have z8 : bits .and .u8 4 8 = 0 := by decide
          have z2 : bits .and .u8 4 2 = 0 := by decide
          go_wp2_with fail
          go_round
          case rel => exact ⟨k + 1, by omega, by go_num⟩
          case measure => simp [intOf]; omega
        · have z3 : bits .and .u8 5 3 = 1 := by decide
          have z12 : bits .and .u8 5 12 = 4 := by decide
          have z1 : bits .and .u8 5 1 = 1 := by decide
          have z4 : bits .and .u8 5 4 = 4 := by decide
          have z8 : bits .and .u8 5 8 = 0 := by decide
          have z2 : bits .and .u8 5 2 = 0 := by decide
          go_wp2_with fail
          go_round
          case rel => exact ⟨k + 1, by omega, by go_num⟩
          case measure => simp [intOf]; omega
        · have z3 : bits .and .u8 6 3 = 2 := by decide
          have z12 : bits .and .u8 6 12 = 4 := by decide
          have z1 : bits .and .u8 6 1 = 0 := by decide
          have z4 : bits .and .u8 6 4 = 4 := by decide
          have z8 : bits .and .u8 6 8 = 0 := by decide
          have z2 : bits .and .u8 6 2 = 2 := by decide
          go_wp2_with fail
          go_round
          case rel => exact ⟨k + 1, by omega, by go_num⟩
          case measure => simp [intOf]; omega
        · have z3 : bits .and .u8 10 3 = 2 := by decide
          have z12 : bits .and .u8 10 12 = 8 := by decide
          have z1 : bits .and .u8 10 1 = 0 := by decide
          have z4 : bits .and .u8 10 4 = 0 := by decide
          have z8 : bits .and .u8 10 8 = 8 := by decide
          have z2 : bits .and .u8 10 2 = 2 := by decide
          go_wp2_with fail
          go_round
          case rel => exact ⟨k + 1, by omega, by go_num⟩
          case measure => simp [intOf]; omega
      · go_wp2_with fail
        go_ret
        exact ⟨rfl, HB2.out⟩
  · have CS := hide (Solve_bad HTA1.out HF1.out hf)
    have hne : (faultM T F != 0) = true := by simpa using hf
    clear hf
    generalize faultM T F = e0 at *
    have CN := hide fun w : World => num_still w e0
    go_wp2_with (first | (go_at_call 9; refine CS.out.mono ?_; rintro _ w2 ⟨rfl, hw2⟩; have HW2 := hide hw2; clear hw2) | (go_at_call 10; refine (CN.out _).mono ?_; rintro _ w6 ⟨rfl, rfl⟩))
    go_ret
    exact ⟨rfl, HB1.out.trans (HW2.out.mono HB1.out.size)⟩
end Go.Proofs.Ytbnkdfhjdjgnhaa
