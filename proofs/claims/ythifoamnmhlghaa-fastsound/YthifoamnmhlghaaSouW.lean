/- FastSound, walked. -/
import Derived.Test.YthifoamnmhlghaaWks
namespace Go.Proofs.Ythifoamnmhlghaa.Fa
open Go.RowKit

theorem coh_table : ∀ x : _root_.Fin 16, ((hb (x.val : Int) 1 && hb (x.val : Int) 2) || (hb (x.val : Int) 3 && hb (x.val : Int) 4) || (hb (x.val : Int) 1 && !hb (x.val : Int) 3) || (hb (x.val : Int) 4 && !hb (x.val : Int) 2) || [0, 2, 4, 5, 6, 10].contains x.val) = true := by decide +kernel
/-- Which marks a literal may have. -/
theorem coh_val {T : Th} {F m : List Int} {n i q : Nat} (hp : Pf T F n) (h : Sol T F m i) (hq : q < n) : m.getD q 0 = 0 ∨ m.getD q 0 = 2 ∨ m.getD q 0 = 4 ∨ m.getD q 0 = 5 ∨ m.getD q 0 = 6 ∨ m.getD q 0 = 10 := by
  have hb0 := sol_bys h q
  have hlt : m.getD q 0 < 16 := by rw [h.1]; exact Mk_small q
  have e : ∀ t, hs m (q : Int) t = hb (m.getD q 0) t := fun t => by unfold hs; rw [Int.toNat_natCast]
  have q0 : (0 : Int) ≤ (q : Int) := by omega
  have q1 : (q : Int) < (n : Int) := by omega
  have h1 := sol_strict hp h q0
  have h2 := sol_defeas hp h q0
  have h3 := sol_up hp h q0 q1
  have h4 := sol_down hp h q0 q1
  rw [e, e] at h1 h2 h3 h4
  obtain ⟨x, hx⟩ := Int.eq_ofNat_of_zero_le hb0.1
  rw [hx] at hlt h1 h2 h3 h4 ⊢
  have ht := coh_table ⟨x, by omega⟩
  simp only [Bool.or_eq_true, Bool.and_eq_true, Bool.not_eq_true'] at ht
  rcases ht with ⟨⟨⟨⟨a, b⟩ | ⟨a, b⟩⟩ | ⟨a, b⟩⟩ | ⟨a, b⟩⟩ | a
  · exact (h1 a b).elim
  · exact (h2 a b).elim
  · rw [h3 a] at b; cases b
  · rw [h4 a] at b; cases b
  · simp at a
    omega
theorem and4 {x : Int} {b : Bool} (hx : x = 0 ∨ x = 2 ∨ x = 4 ∨ x = 5 ∨ x = 6 ∨ x = 10) (h : hb x 3 = b) : (bits .and .u8 x 4 == 4) = b := by
  subst h
  rcases hx with rfl | rfl | rfl | rfl | rfl | rfl <;> decide +kernel
set_option maxRecDepth 100000 in
set_option maxHeartbeats 6400000 in
theorem sound_any {w : World} {T : Th} {F : List Int} {fa ra ba ea : Option Addr} {fc rc bc ec : Nat} (h : TA w.heap.size w T fa fc ra rc ba bc) (hF : Ints w.heap.size w F (.slice ea F.length ec)) :
    Calls Try.prog 3 #[tv T fa fc ra rc ba bc, .slice ea F.length ec] w fun e w' => e = .returned (.bool true) ∧ Below w.heap.size w w' := by
  have hB := below_new w (.cells #[.int .i64 T.lits, .slice fa T.foes.length fc, .slice ra T.rules.length rc, .slice ba T.beats.length bc] 25)
  have hX := heap_alloc_new w (.cells #[.int .i64 T.lits, .slice fa T.foes.length fc, .slice ra T.rules.length rc, .slice ba T.beats.length bc] 25)
  have HTA := hide (TR.go hB h)
  have HF := hide (Ints.go hB hF)
  have HB := hide hB
  have HX := hide hX
  clear h hB hF
  go_enter Try.func3, Try.ntmps3
  go_upto_region 1 with fail
  generalize w.alloc (.cells #[.int .i64 T.lits, .slice fa T.foes.length fc, .slice ra T.rules.length rc, .slice ba T.beats.length bc] 25) = W at *
  clear hX
  have CA := hide (works_any (w := W))
  go_upto_region 3 with (go_at_call 8; refine CA.out.mono ?_; rintro _ w1 ⟨rfl, hw1⟩; have HW1 := hide hw1; clear hw1)
  have HX1 := hide ((HW1.out.block _ (loc_lt HX.out)).trans HX.out)
  have HTA1 := hide (TR.go HW1.out HTA.out)
  have HF1 := hide (Ints.go HW1.out HF.out)
  have HB1 := hide (HB.out.trans (HW1.out.mono HB.out.size))
  clear CA HX HTA HF HB HW1
  obtain ⟨-, c0, c1, c2, c3⟩ := Bt.of HX1.out
  by_cases hf : faultM T F = 0
  · have CS := hide (Run_ok HTA1.out HF1.out hf)
    have HP := hide (pf_of hf)
    clear hf
    go_upto_region 4 with (go_at_call 9; refine CS.out.mono ?_; rintro _ w2 ⟨v, m, i, rfl, hs, hown, hw2⟩; have HS := hide hs; have HO := hide hown; have HW2 := hide hw2; clear hs hown hw2)
    have HB2 := hide (HB1.out.trans (HW2.out.mono HB1.out.size))
    have HX2 := hide ((HW2.out.block _ (loc_lt HX1.out)).trans HX1.out)
    have HTA2 := hide (TR.go HW2.out HTA1.out)
    clear c0 c1 c2 c3 CS HTA1 HF1 HB1 HX1 HW2
    obtain ⟨n, hn⟩ : ∃ n, T.lits.toNat = n := ⟨_, rfl⟩
    have HML : Hid (m.length = n) := hide (by rw [← hn]; exact sol_len HP.out HS.out)
    rw [hn] at HO HP
    have hn4 := HP.out.n4
    clear hn
    obtain ⟨va, vc, rfl⟩ := owns_slice HO.out
    obtain ⟨-, c0, c1, c2, c3⟩ := Bt.of HX2.out
    rw [HP.out.ln] at c0
    go_upto_region 9 with fail
    clear c0 c2 c3
    go_loop [7] (fun x => ∃ k : Nat, k ≤ n ∧ x = .int .i64 k) (fun x => n - (intOf x).toNat)
    case atStart => exact ⟨0, by omega, rfl⟩
    case round =>
      obtain ⟨k, hk, rfl⟩ := hrel
      by_cases hlt : k < n
      · obtain ⟨l, hl⟩ := get_at (l := T.foes) (i := k) (by have := HP.out.ok.fl; have := HP.out.ln; omega)
        have hfl : k < T.foes.length := (List.getElem?_eq_some_iff.1 hl).1
        obtain ⟨gf, of, bd, bp, rfl, -, x0, -, hbl, hI⟩ := at_L HTA2.out.foes hl
        have HI := hide hI.at1
        have HIN : Hid (∀ y ∈ l, y ∈ row T.foes (k : Int) ∧ 0 ≤ y ∧ y < (n : Int)) := hide (by
          have er : row T.foes (k : Int) = l := row_at (by rw [Int.toNat_natCast]; exact hl)
          intro y hy
          have hy2 : y ∈ row T.foes (k : Int) := by rw [er]; exact hy
          exact ⟨hy2, HP.out.foe k hlt y hy2⟩)
        obtain ⟨g, o, rfl, a0⟩ := owns_at1 HO.out k _ (u8s_at (by rw [HML.out]; exact hlt))
        have HX3 : Hid (∀ t, hs m (k : Int) t = hb (m.getD k 0) t) := hide fun t => by unfold hs; rw [Int.toNat_natCast]
        have hv := coh_val HP.out HS.out hlt
        generalize hx : m.getD k 0 = x at a0 HX3 hv
        clear hl hI hx
        rcases hv with rfl | rfl | rfl | rfl | rfl | rfl
        · have z3 : bits .and .u8 0 3 = 0 := by decide +kernel
          have z12 : bits .and .u8 0 12 = 0 := by decide +kernel
          have z1 : bits .and .u8 0 1 = 0 := by decide +kernel
          have z4 : bits .and .u8 0 4 = 0 := by decide +kernel
          have z8 : bits .and .u8 0 8 = 0 := by decide +kernel
          have z2 : bits .and .u8 0 2 = 0 := by decide +kernel
          go_wp2_with fail
          go_loop [9] (fun x => ∃ j : Nat, j ≤ l.length ∧ x = .int .i64 j) (fun x => l.length - (intOf x).toNat)
          case atStart => exact ⟨0, by omega, rfl⟩
          case round =>
            obtain ⟨j, hj, rfl⟩ := hrel
            by_cases hlj : j < l.length
            · obtain ⟨y, hy⟩ := get_at hlj
              obtain ⟨gy, oy, rfl, cy⟩ := HI.out.get hy
              go_wp2_with fail
              go_round
              case rel => exact ⟨j + 1, by omega, by go_num⟩
              case measure => simp [intOf]; omega
            · go_wp2_with fail
              go_round
              case rel => exact ⟨k + 1, by omega, by go_num⟩
              case measure => simp [intOf]; omega
        · have z3 : bits .and .u8 2 3 = 2 := by decide +kernel
          have z12 : bits .and .u8 2 12 = 0 := by decide +kernel
          have z1 : bits .and .u8 2 1 = 0 := by decide +kernel
          have z4 : bits .and .u8 2 4 = 0 := by decide +kernel
          have z8 : bits .and .u8 2 8 = 0 := by decide +kernel
          have z2 : bits .and .u8 2 2 = 2 := by decide +kernel
          go_wp2_with fail
          go_loop [9] (fun x => ∃ j : Nat, j ≤ l.length ∧ x = .int .i64 j) (fun x => l.length - (intOf x).toNat)
          case atStart => exact ⟨0, by omega, rfl⟩
          case round =>
            obtain ⟨j, hj, rfl⟩ := hrel
            by_cases hlj : j < l.length
            · obtain ⟨y, hy⟩ := get_at hlj
              obtain ⟨gy, oy, rfl, cy⟩ := HI.out.get hy
              go_wp2_with fail
              go_round
              case rel => exact ⟨j + 1, by omega, by go_num⟩
              case measure => simp [intOf]; omega
            · go_wp2_with fail
              go_round
              case rel => exact ⟨k + 1, by omega, by go_num⟩
              case measure => simp [intOf]; omega
        · have z3 : bits .and .u8 4 3 = 0 := by decide +kernel
          have z12 : bits .and .u8 4 12 = 4 := by decide +kernel
          have z1 : bits .and .u8 4 1 = 0 := by decide +kernel
          have z4 : bits .and .u8 4 4 = 4 := by decide +kernel
          have z8 : bits .and .u8 4 8 = 0 := by decide +kernel
          have z2 : bits .and .u8 4 2 = 0 := by decide +kernel
          go_wp2_with fail
          go_loop [9] (fun x => ∃ j : Nat, j ≤ l.length ∧ x = .int .i64 j) (fun x => l.length - (intOf x).toNat)
          case atStart => exact ⟨0, by omega, rfl⟩
          case round =>
            obtain ⟨j, hj, rfl⟩ := hrel
            by_cases hlj : j < l.length
            · obtain ⟨y, hy⟩ := get_at hlj
              obtain ⟨gy, oy, rfl, cy⟩ := HI.out.get hy
              obtain ⟨y1, y2, y3⟩ := HIN.out y (List.mem_of_getElem? hy)
              obtain ⟨ym, rfl⟩ := Int.eq_ofNat_of_zero_le y2
              have hyn : ym < n := by omega
              obtain ⟨_, _, e1, b0⟩ := owns_at1 HO.out ym _ (u8s_at (by rw [HML.out]; exact hyn))
              cases e1
              have hyv := coh_val HP.out HS.out hyn
              have HY3 : Hid (∀ t, hs m (ym : Int) t = hb (m.getD ym 0) t) := hide fun t => by unfold hs; rw [Int.toNat_natCast]
              have HF3 : Hid (hs m (ym : Int) 3 = true → hs m (k : Int) 3 = true → hs m (ym : Int) 1 = true ∧ hs m (k : Int) 1 = true) := hide (sol_foes HP.out (no_ring HP.out.ok) HS.out (by omega) (by omega) y1)
              generalize m.getD ym 0 = yv at b0 HY3 hyv
              clear hy y1 y2 y3
              have hby : hb yv 3 = false := by
                cases hb0 : hb yv 3 with
                | false => rfl
                | true =>
                  have h5 := (HF3.out (by rw [HY3.out]; exact hb0) (by rw [HX3.out]; decide +kernel)).2
                  rw [HX3.out] at h5
                  exact absurd h5 (by decide +kernel)
              have z9 := and4 hyv hby
              clear hby hyv
              go_wp2_with fail
              go_round
              case rel => exact ⟨j + 1, by omega, by go_num⟩
              case measure => simp [intOf]; omega
            · go_wp2_with fail
              go_round
              case rel => exact ⟨k + 1, by omega, by go_num⟩
              case measure => simp [intOf]; omega
        · have z3 : bits .and .u8 5 3 = 1 := by decide +kernel
          have z12 : bits .and .u8 5 12 = 4 := by decide +kernel
          have z1 : bits .and .u8 5 1 = 1 := by decide +kernel
          have z4 : bits .and .u8 5 4 = 4 := by decide +kernel
          have z8 : bits .and .u8 5 8 = 0 := by decide +kernel
          have z2 : bits .and .u8 5 2 = 0 := by decide +kernel
          go_wp2_with fail
          go_loop [9] (fun x => ∃ j : Nat, j ≤ l.length ∧ x = .int .i64 j) (fun x => l.length - (intOf x).toNat)
          case atStart => exact ⟨0, by omega, rfl⟩
          case round =>
            obtain ⟨j, hj, rfl⟩ := hrel
            by_cases hlj : j < l.length
            · obtain ⟨y, hy⟩ := get_at hlj
              obtain ⟨gy, oy, rfl, cy⟩ := HI.out.get hy
              obtain ⟨y1, y2, y3⟩ := HIN.out y (List.mem_of_getElem? hy)
              obtain ⟨ym, rfl⟩ := Int.eq_ofNat_of_zero_le y2
              have hyn : ym < n := by omega
              obtain ⟨_, _, e1, b0⟩ := owns_at1 HO.out ym _ (u8s_at (by rw [HML.out]; exact hyn))
              cases e1
              have hyv := coh_val HP.out HS.out hyn
              have HY3 : Hid (∀ t, hs m (ym : Int) t = hb (m.getD ym 0) t) := hide fun t => by unfold hs; rw [Int.toNat_natCast]
              have HF3 : Hid (hs m (ym : Int) 3 = true → hs m (k : Int) 3 = true → hs m (ym : Int) 1 = true ∧ hs m (k : Int) 1 = true) := hide (sol_foes HP.out (no_ring HP.out.ok) HS.out (by omega) (by omega) y1)
              generalize m.getD ym 0 = yv at b0 HY3 hyv
              clear hy y1 y2 y3
              cases hby : hb yv 3 with
              | false =>
                have z9 := and4 hyv hby
                clear hby hyv
                go_wp2_with fail
                go_round
                case rel => exact ⟨j + 1, by omega, by go_num⟩
                case measure => simp [intOf]; omega
              | true =>
                have z9 := and4 hyv hby
                clear hby hyv
                go_wp2_with fail
                go_round
                case rel => exact ⟨j + 1, by omega, by go_num⟩
                case measure => simp [intOf]; omega
            · go_wp2_with fail
              go_round
              case rel => exact ⟨k + 1, by omega, by go_num⟩
              case measure => simp [intOf]; omega
        · have z3 : bits .and .u8 6 3 = 2 := by decide +kernel
          have z12 : bits .and .u8 6 12 = 4 := by decide +kernel
          have z1 : bits .and .u8 6 1 = 0 := by decide +kernel
          have z4 : bits .and .u8 6 4 = 4 := by decide +kernel
          have z8 : bits .and .u8 6 8 = 0 := by decide +kernel
          have z2 : bits .and .u8 6 2 = 2 := by decide +kernel
          go_wp2_with fail
          go_loop [9] (fun x => ∃ j : Nat, j ≤ l.length ∧ x = .int .i64 j) (fun x => l.length - (intOf x).toNat)
          case atStart => exact ⟨0, by omega, rfl⟩
          case round =>
            obtain ⟨j, hj, rfl⟩ := hrel
            by_cases hlj : j < l.length
            · obtain ⟨y, hy⟩ := get_at hlj
              obtain ⟨gy, oy, rfl, cy⟩ := HI.out.get hy
              obtain ⟨y1, y2, y3⟩ := HIN.out y (List.mem_of_getElem? hy)
              obtain ⟨ym, rfl⟩ := Int.eq_ofNat_of_zero_le y2
              have hyn : ym < n := by omega
              obtain ⟨_, _, e1, b0⟩ := owns_at1 HO.out ym _ (u8s_at (by rw [HML.out]; exact hyn))
              cases e1
              have hyv := coh_val HP.out HS.out hyn
              have HY3 : Hid (∀ t, hs m (ym : Int) t = hb (m.getD ym 0) t) := hide fun t => by unfold hs; rw [Int.toNat_natCast]
              have HF3 : Hid (hs m (ym : Int) 3 = true → hs m (k : Int) 3 = true → hs m (ym : Int) 1 = true ∧ hs m (k : Int) 1 = true) := hide (sol_foes HP.out (no_ring HP.out.ok) HS.out (by omega) (by omega) y1)
              generalize m.getD ym 0 = yv at b0 HY3 hyv
              clear hy y1 y2 y3
              have hby : hb yv 3 = false := by
                cases hb0 : hb yv 3 with
                | false => rfl
                | true =>
                  have h5 := (HF3.out (by rw [HY3.out]; exact hb0) (by rw [HX3.out]; decide +kernel)).2
                  rw [HX3.out] at h5
                  exact absurd h5 (by decide +kernel)
              have z9 := and4 hyv hby
              clear hby hyv
              go_wp2_with fail
              go_round
              case rel => exact ⟨j + 1, by omega, by go_num⟩
              case measure => simp [intOf]; omega
            · go_wp2_with fail
              go_round
              case rel => exact ⟨k + 1, by omega, by go_num⟩
              case measure => simp [intOf]; omega
        · have z3 : bits .and .u8 10 3 = 2 := by decide +kernel
          have z12 : bits .and .u8 10 12 = 8 := by decide +kernel
          have z1 : bits .and .u8 10 1 = 0 := by decide +kernel
          have z4 : bits .and .u8 10 4 = 0 := by decide +kernel
          have z8 : bits .and .u8 10 8 = 8 := by decide +kernel
          have z2 : bits .and .u8 10 2 = 2 := by decide +kernel
          go_wp2_with fail
          go_loop [9] (fun x => ∃ j : Nat, j ≤ l.length ∧ x = .int .i64 j) (fun x => l.length - (intOf x).toNat)
          case atStart => exact ⟨0, by omega, rfl⟩
          case round =>
            obtain ⟨j, hj, rfl⟩ := hrel
            by_cases hlj : j < l.length
            · obtain ⟨y, hy⟩ := get_at hlj
              obtain ⟨gy, oy, rfl, cy⟩ := HI.out.get hy
              go_wp2_with fail
              go_round
              case rel => exact ⟨j + 1, by omega, by go_num⟩
              case measure => simp [intOf]; omega
            · go_wp2_with fail
              go_round
              case rel => exact ⟨k + 1, by omega, by go_num⟩
              case measure => simp [intOf]; omega
      · go_wp2_with fail
        go_ret
        exact ⟨rfl, HB2.out⟩
  · have CS := hide (Run_bad HTA1.out HF1.out hf)
    have hne : (faultM T F != 0) = true := by simpa using hf
    clear hf
    generalize faultM T F = e0 at *
    go_wp2_with (go_at_call 9; refine CS.out.mono ?_; rintro _ w2 ⟨rfl, hw2⟩; have HW2 := hide hw2; clear hw2)
    go_ret
    exact ⟨rfl, HB1.out.trans (HW2.out.mono HB1.out.size)⟩
end Go.Proofs.Ythifoamnmhlghaa.Fa
